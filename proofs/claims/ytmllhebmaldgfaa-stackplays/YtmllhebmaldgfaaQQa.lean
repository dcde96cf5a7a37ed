/-
  Both arenas made of the same elements. Wider and narrower scopes; the elements of an arena, in order: plain. A box beside other objects.
-/
import Derived.Test.YtmllhebmaldgfaaQEa
import Derived.Test.YtmllhebmaldgfaaQOa
namespace Go.Proofs.Ytmllhebmaldgfaa
open Go.RowKit

def xB : ByteArray := ⟨#[120]⟩
def ksOf (ks : List Key) (l : List Cal) : List Key := l.foldl (fun ks c => (elemK ks c.space c.name).1) ks
/-- The nodes of the arenas that are made of l. -/
def ksL (l : List Cal) : List Key := (textK (ksOf [⟨0, 0, emptyS⟩] (l.take 300)) xB).1
theorem ksOf_next {l : List Cal} {i : Nat} {c : Cal} (h : l[i]? = some c) : ksOf [⟨0, 0, emptyS⟩] (l.take (i + 1)) = (elemK (ksOf [⟨0, 0, emptyS⟩] (l.take i)) c.space c.name).1 := by
  obtain ⟨hlt, rfl⟩ := List.getElem?_eq_some_iff.1 h
  rw [List.take_succ_eq_append_getElem hlt, ksOf, List.foldl_append]
  rfl

set_option maxHeartbeats 4000000 in
theorem arenas_any (w : World) (a : Option Addr) (l : List Cal) (cap : Nat) (hin : ElsIn w a l) (hl : l.length ≤ 140737488351232) :
    Calls Try.prog 9 #[.slice a l.length cap] w fun e w' => ∃ bA bR, e = .returned (.tuple #[.pointer (some ⟨bA, 0, none⟩), .pointer (some ⟨bR, 0, none⟩)]) ∧ Env w w' [arOb _ bA (ksL l), rfOb _ bR (ksL l)] := by
  have HIN := hide hin
  have H0 := hide (Env.start w)
  have hlz : (l.length : Int) ≤ 140737488351232 := by omega
  clear hin hl
  go_enter Try.func9, Try.ntmps9
  go_wp2_with (first
    | (go_at_call 26; refine (env_new (unhide H0)).mono ?_; rintro e w1 ⟨bA, rfl, hv⟩; have H1 := hide hv; clear hv)
    | (go_at_call 35; refine (env_rnew (unhide H1)).mono ?_; rintro e w2 ⟨bR, rfl, hv⟩; have H2 := hide hv; clear hv))
  go_loopg [6] 300 (fun g s6 wr => ∃ i : Nat, s6 = .int .i64 (i : Int) ∧ i + g = 300 ∧ i ≤ l.length ∧ Env w wr [arOb _ bA (ksOf [⟨0, 0, emptyS⟩] (l.take i)), rfOb _ bR (ksOf [⟨0, 0, emptyS⟩] (l.take i))])
  case atStart => exact ⟨0, rfl, by omega, Nat.zero_le _, unhide H2⟩
  case round =>
    obtain ⟨i, rfl, hig, hil, hv⟩ := hrel
    have HV := hide hv
    have HG := hide hig
    clear hv
    by_cases hi : i < l.length
    · have hiz : (i : Int) < (l.length : Int) := by omega
      by_cases h3 : i < 300
      · have h3z : (i : Int) < 300 := by omega
        obtain ⟨c, hc⟩ : ∃ c, l[i]? = some c := ⟨_, List.getElem?_eq_getElem hi⟩
        obtain ⟨b, off, rfl, _, _⟩ := (unhide HIN).cells i c hc
        have HC : Hid (∀ wx, Below w.heap.size w wx → wx.cell? ⟨b, off + i * 2, none⟩ = some (.int .i64 c.space) ∧ wx.cell? ⟨b, off + i * 2 + 1, none⟩ = some (.string c.name)) := hide (fun wx hb => by
          obtain ⟨b', off', e, c0, c1⟩ := ((unhide HIN).below hb).cells i c hc
          cases e
          exact ⟨c0, c1⟩)
        have HN := hide (ksOf_next hc)
        generalize ksOf [⟨0, 0, emptyS⟩] (l.take i) = ks at *
        generalize hlen : l.length = n at *
        have HLEN := hide hlen
        obtain ⟨cs, cn⟩ := c
        simp only at HC HN
        obtain ⟨q0, q1⟩ := (unhide HC) wr (unhide HV).bel
        have HI := hide hi
        have HIL := hide hil
        have HH3 := hide h3
        clear hig hil hi h3 hc hlen
        go_wp2_with fail
        go_region_with (go_at_call 27; refine (env_elem (wx := _) (by first | exact unhide HV | exact (unhide HV).more (Below.refl _ _).drew | exact (unhide HV).more (below_dn (Below.refl _ _) _) | exact (unhide HV).more (Below.refl _ _).drew.drew) (i := 0) (bA := bA) rfl cs cn).mono ?_; rintro e w3 ⟨rfl, hv⟩; have E3 := hide hv; obtain ⟨r0, r1⟩ := (unhide HC) w3 hv.bel; clear hv)
        all_goals go_wp2_with fail
        all_goals go_region_with (go_at_call 36; refine (env_relem (wx := _) (by first | exact unhide E3 | exact (unhide E3).more (Below.refl _ _).drew | exact (unhide E3).more (below_dn (Below.refl _ _) _) | exact (unhide E3).more (Below.refl _ _).drew.drew) (i := 1) (bR := bR) rfl cs cn).mono ?_; rintro e w4 ⟨rfl, hv⟩; have E4 := hide hv; clear hv)
        all_goals go_wp2
        all_goals go_roundg (gk - 1)
        all_goals first | (case measure => have := unhide HG; have := unhide HH3; omega) | skip
        all_goals exact ⟨i + 1, by go_num, by have := unhide HG; have := unhide HH3; omega, by have := unhide HI; have := unhide HLEN; omega, by rw [unhide HN]; exact unhide E4⟩
      · obtain rfl : i = 300 := by omega
        have HF : Hid (ksL l = (textK (ksOf [⟨0, 0, emptyS⟩] (l.take 300)) xB).1) := hide rfl
        generalize l.length = n at *
        generalize ksOf [⟨0, 0, emptyS⟩] (l.take 300) = ks at *
        clear hig hil h3 hi
        go_wp2_with (first
          | (go_at_call 37; refine (env_text (unhide HV) (i := 0) (bA := bA) rfl xB).mono ?_; rintro e w3 ⟨rfl, hv⟩; have E3 := hide hv; clear hv)
          | (go_at_call 38; refine (env_rtext (unhide E3) (i := 1) (bR := bR) rfl xB).mono ?_; rintro e w4 ⟨rfl, hv⟩; have E4 := hide hv; clear hv))
        go_ret2
        have e4 := unhide E4
        exact ⟨bA, bR, rfl, by rw [unhide HF]; exact e4⟩
    · have hiz : ¬ (i : Int) < (l.length : Int) := by omega
      have HF : Hid (ksL l = (textK (ksOf [⟨0, 0, emptyS⟩] (l.take i)) xB).1) := hide (by
        unfold ksL
        rw [List.take_of_length_le (show l.length ≤ 300 by omega), List.take_of_length_le (show l.length ≤ i by omega)])
      generalize ksOf [⟨0, 0, emptyS⟩] (l.take i) = ks at *
      generalize l.length = n at *
      clear hig hil hi
      go_wp2_with (first
        | (go_at_call 37; refine (env_text (unhide HV) (i := 0) (bA := bA) rfl xB).mono ?_; rintro e w3 ⟨rfl, hv⟩; have E3 := hide hv; clear hv)
        | (go_at_call 38; refine (env_rtext (unhide E3) (i := 1) (bR := bR) rfl xB).mono ?_; rintro e w4 ⟨rfl, hv⟩; have E4 := hide hv; clear hv))
      go_ret2
      have e4 := unhide E4
      exact ⟨bA, bR, rfl, by rw [unhide HF]; exact e4⟩
end Go.Proofs.Ytmllhebmaldgfaa

namespace Go.Proofs.Ytmllhebmaldgfaa
open Go.RowKit

theorem reachI_mono {want bord bord' : Int → Bool} {L : List Int} (h : ∀ x, bord' x = true → bord x = true) : ∀ n, reachI want bord L n = true → reachI want bord' L n = true
  | 0, e => by simp [reachI] at e
  | n + 1, e => by
    rw [reachI] at e ⊢
    cases hx : L[n]? with
    | none => rw [hx] at e; cases e
    | some x =>
      rw [hx] at e
      simp only at e ⊢
      by_cases hw : want x = true
      · rw [if_pos hw]
      · rw [if_neg hw] at e ⊢
        by_cases hb : bord x = true
        · rw [if_pos hb] at e; cases e
        · rw [if_neg hb] at e
          rw [if_neg (fun hb' => hb (h x hb'))]
          exact reachI_mono h n e
theorem reachI_some {want bord : Int → Bool} {L : List Int} : ∀ n, reachI want bord L n = true → ∃ x ∈ L, want x = true
  | 0, e => by simp [reachI] at e
  | n + 1, e => by
    rw [reachI] at e
    cases hx : L[n]? with
    | none => rw [hx] at e; cases e
    | some x =>
      rw [hx] at e
      simp only at e
      by_cases hw : want x = true
      · exact ⟨x, List.mem_of_getElem? hx, hw⟩
      · rw [if_neg hw] at e
        split at e
        · cases e
        · exact reachI_some n e

theorem scope_five (ks : List Key) (S : List Int) (name : ByteArray) : scopeM ks S name 5 = false := rfl
theorem scope_neg (ks : List Key) (S : List Int) (name : ByteArray) : scopeM ks S name (-1) = false := rfl
theorem scope_list {ks : List Key} {S : List Int} {name : ByteArray} (h : scopeM ks S name 1 = true) : scopeM ks S name 0 = true := by
  unfold scopeM at *
  rw [if_neg (by omega)] at h ⊢
  refine reachI_mono (fun x hx => ?_) _ h
  have hx : plainM (calOf ks x) = true := hx
  show (plainM (calOf ks x) || _ || _) = true
  rw [hx]
  rfl
theorem scope_button {ks : List Key} {S : List Int} {name : ByteArray} (h : scopeM ks S name 2 = true) : scopeM ks S name 0 = true := by
  unfold scopeM at *
  rw [if_neg (by omega)] at h ⊢
  refine reachI_mono (fun x hx => ?_) _ h
  have hx : plainM (calOf ks x) = true := hx
  show (plainM (calOf ks x) || _) = true
  rw [hx]
  rfl
theorem tbl_bord (n : ByteArray) (h : hasT tblT n = true) : hasT bordT n = true := by
  unfold hasT at *
  rw [List.any_eq_true] at h ⊢
  obtain ⟨x, hx, e⟩ := h
  refine ⟨x, ?_, e⟩
  simp only [tblT, List.mem_cons, List.not_mem_nil, or_false] at hx
  simp only [bordT, List.mem_cons, List.not_mem_nil, or_false]
  rcases hx with rfl | rfl | rfl <;> simp
theorem scope_table {ks : List Key} {S : List Int} {name : ByteArray} (h : scopeM ks S name 0 = true) : scopeM ks S name 3 = true := by
  unfold scopeM at *
  rw [if_neg (by omega)] at h ⊢
  refine reachI_mono (fun x hx => ?_) _ h
  have hx : ((calOf ks x).space == 0 && hasT tblT (calOf ks x).name) = true := hx
  show (((calOf ks x).space == 0 && hasT bordT (calOf ks x).name) || _) = true
  simp only [Bool.and_eq_true] at hx
  rw [hx.1, tbl_bord _ hx.2]
  rfl

/-- The elements under n, in order. -/
def elsTo (ks : List Key) : Nat → List Int
  | 0 => []
  | n + 1 => if 1 ≤ n ∧ (elOf ks (n : Int)).isSome = true then elsTo ks n ++ [(n : Int)] else elsTo ks n
theorem elsTo_mem {ks : List Key} {x : Int} : ∀ {n : Nat}, x ∈ elsTo ks n → ∃ j : Nat, x = (j : Int) ∧ 1 ≤ j ∧ j < n ∧ (elOf ks x).isSome = true
  | 0, h => by simp [elsTo] at h
  | n + 1, h => by
    rw [elsTo] at h
    split at h
    · rename_i hc
      rcases List.mem_append.1 h with h | h
      · obtain ⟨j, e, h1, h2, h3⟩ := elsTo_mem h
        exact ⟨j, e, h1, by omega, h3⟩
      · simp at h
        subst h
        exact ⟨n, rfl, hc.1, by omega, hc.2⟩
    · obtain ⟨j, e, h1, h2, h3⟩ := elsTo_mem h
      exact ⟨j, e, h1, by omega, h3⟩
theorem elsTo_nodup (ks : List Key) : ∀ n, (elsTo ks n).Nodup
  | 0 => by simp [elsTo]
  | n + 1 => by
    rw [elsTo]
    split
    · rw [List.nodup_append]
      refine ⟨elsTo_nodup ks n, by simp, ?_⟩
      intro a ha b hb e
      simp at hb
      subst hb e
      obtain ⟨j, e, _, h2, _⟩ := elsTo_mem ha
      omega
    · exact elsTo_nodup ks n
theorem good_els (ks : List Key) (n : Nat) : Good ks (elsTo ks n) := ⟨elsTo_nodup ks n, fun _ hx => by
  obtain ⟨_, _, _, _, h⟩ := elsTo_mem hx
  exact h⟩
theorem els_yes {ks : List Key} {n : Nat} (h1 : 1 ≤ n) (h : (elOf ks (n : Int)).isSome = true) : enterE ks (elsTo ks n) (n : Int) = 0 ∧ pushL ks (elsTo ks n) (n : Int) = elsTo ks (n + 1) := by
  have e : enterE ks (elsTo ks n) (n : Int) = 0 := by
    unfold enterE
    rw [if_pos h, if_neg (fun hm => by obtain ⟨j, e, _, h2, _⟩ := elsTo_mem hm; omega)]
  exact ⟨e, by rw [pushL, if_pos e, elsTo, if_pos ⟨h1, h⟩]⟩
theorem els_no {ks : List Key} {n : Nat} (h : elOf ks (n : Int) = none) : elsTo ks (n + 1) = elsTo ks n := by
  rw [elsTo, if_neg (by rw [h]; simp)]
theorem els_last {ks : List Key} {n : Nat} (h1 : 1 ≤ n) (h : (elOf ks (n : Int)).isSome = true) : elsTo ks (n + 1) = elsTo ks n ++ [(n : Int)] := by rw [elsTo, if_pos ⟨h1, h⟩]

/-- Is one of these of that name? -/
def thereM (ks : List Key) (name : ByteArray) (S : List Int) : Bool := S.any fun x => namedM (calOf ks x) name
theorem thereM_snoc (ks : List Key) (name : ByteArray) (S : List Int) (x : Int) : thereM ks name (S ++ [x]) = (thereM ks name S || namedM (calOf ks x) name) := by simp [thereM]
theorem scope_there {ks : List Key} {S : List Int} {name : ByteArray} {k : Int} (h : scopeM ks S name k = true) : thereM ks name S = true := by
  unfold scopeM at h
  split at h
  · cases h
  · obtain ⟨x, hx, hw⟩ := reachI_some _ h
    exact List.any_eq_true.2 ⟨x, hx, hw⟩
theorem namedM_eq (c : Cal) (n : ByteArray) : namedM c n = (c.space == 0 && (c.name.toList == n.toList)) := by simp [namedM, amongM, hasT]

/-- A block of its own. -/
def blkOb (base K : Nat) (cs : Array Value) (t : TypeId) : Ob base := ⟨fun w F => base ≤ K ∧ w.heap[K]? = some (.cells cs t (0, 0)) ∧ ∀ k, F k ↔ k = K, fun _ _ k h hk => by
    have := (h.2.2 k).1 hk
    subst this
    exact ⟨h.1, lt_of_block h.2.1⟩, fun w w' F G h hm hG => ⟨h.1, (hm.block K (lt_of_block h.2.1) (hG K ((h.2.2 K).2 rfl))).trans h.2.1, h.2.2⟩⟩

section
variable {w wx : World} {obs : List (Ob w.heap.size)}
theorem Env.boxed (h : Env w wx obs) (cs : Array Value) (t : TypeId) : Env w (wx.alloc (.cells cs t)) (obs ++ [blkOb _ wx.heap.size cs t]) :=
  h.add (o := blkOb _ wx.heap.size cs t) (F := fun k => k = wx.heap.size) (below_new _ _) ⟨h.bel.size, heap_alloc_new wx _, fun _ => Iff.rfl⟩ (fun k hk => by omega)
theorem Env.block (h : Env w wx obs) {i K : Nat} {cs : Array Value} {t : TypeId} (hi : obs[i]? = some (blkOb _ K cs t)) : wx.heap[K]? = some (.cells cs t (0, 0)) := by
  obtain ⟨F, ho, _⟩ := h.upd hi
  exact ho.2.1
theorem env_node (h : Env w wx obs) {i bA : Nat} {ks : List Key} (hi : obs[i]? = some (arOb _ bA ks)) {id : Int} {q : Key} (hq : keyAt ks id = some q) :
    Calls Try.prog 18 #[.pointer (some ⟨bA, 0, none⟩), .int .i64 id] wx fun e w' => ∃ (n : NodeM) (ao : Option Addr) (m c : Nat), e = .returned (.tuple #[nodeV n (.slice ao m c), .int .i64 0]) ∧ keyN n = q ∧ Env w w' obs := by
  obtain ⟨F, h1, _⟩ := h.ar hi
  refine (node_k h1 hq).mono ?_
  rintro e w' ⟨n, ao, m, c, rfl, e2, hb⟩
  exact ⟨n, ao, m, c, rfl, e2, h.more hb⟩
end
end Go.Proofs.Ytmllhebmaldgfaa
