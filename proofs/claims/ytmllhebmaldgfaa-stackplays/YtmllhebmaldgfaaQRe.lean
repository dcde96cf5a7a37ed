/-
  The document's stack: Put and Swap, whole.
-/
import Derived.Test.YtmllhebmaldgfaaQQa
namespace Go.Proofs.Ytmllhebmaldgfaa
open Go.RowKit

structure RstAt (w : World) (base bW bR : Nat) (p : PartM) : Prop where
  box : w.heap[bW]? = some (.cells #[.pointer (some ⟨bR, 0, none⟩), p.val] 85 (0, 0))
  part : PartAt w base p
  lo : base ≤ bW
def footW (bW : Nat) (p : PartM) (k : Nat) : Prop := k = bW ∨ p.own = some k

section
variable {w w' w1 : World} {base bW bR : Nat} {p p' : PartM} {F G : Nat → Prop} {L : List Int}
theorem RstAt.cells (h : RstAt w base bW bR p) : w.cell? ⟨bW, 0, none⟩ = some (.pointer (some ⟨bR, 0, none⟩)) ∧ w.cell? ⟨bW, 1, none⟩ = some p.val ∧ ∀ j, w.frozen? ⟨bW, j, none⟩ = false := by
  have hb := h.box
  exact ⟨by simp [World.cell?, hb], by simp [World.cell?, hb], fun j => by simp [World.frozen?, hb]⟩
theorem RstAt.lt (h : RstAt w base bW bR p) : bW < w.heap.size := lt_of_block h.box
theorem RstAt.ne (h : RstAt w base bW bR p) : p.own ≠ some bW := by
  intro e
  obtain ⟨_, _, cu, hc⟩ := h.part.own_lt e
  rw [h.box] at hc
  cases hc
theorem RstAt.foot_lt (h : RstAt w base bW bR p) {k : Nat} (hk : footW bW p k) : base ≤ k ∧ k < w.heap.size := by
  rcases hk with rfl | hk
  · exact ⟨h.lo, h.lt⟩
  · have := h.part.own_lt hk
    exact ⟨this.1, this.2.1⟩
theorem RstAt.mod (h : RstAt w base bW bR p) (hm : Mod G w w') (hG : ∀ k, footW bW p k → ¬ G k) : RstAt w' base bW bR p :=
  ⟨(hm.block bW h.lt (hG bW (.inl rfl))).trans h.box, h.part.mod hm (fun k hk => hG k (.inr hk)), h.lo⟩
theorem RstAt.below (h : RstAt w base bW bR p) (hb : Below w.heap.size w w') : RstAt w' base bW bR p := h.mod (Mod.of_below (F := fun _ => False) hb) (fun _ _ e => e)
theorem RstAt.set (h : RstAt w base bW bR p) (hm : Mod (fun k => p.own = some k) w w1) (hp : PartAt w1 base p') : RstAt (w1.setCell ⟨bW, 1, none⟩ p'.val) base bW bR p' ∧ Mod (footW bW p) w (w1.setCell ⟨bW, 1, none⟩ p'.val) := by
  have hb1 : w1.heap[bW]? = _ := (hm.block bW h.lt h.ne).trans h.box
  refine ⟨⟨?_, hp.kept (fun k hk => setCell_far _ _ _ (fun e => ?_)), h.lo⟩, (hm.mono (fun _ _ hk => .inr hk)).trans (Mod.setCell _ _ _ (.inl rfl))⟩
  · have := heap_setCell_same w1 bW 1 #[.pointer (some ⟨bR, 0, none⟩), p.val] 85 p'.val hb1
    simpa using this
  · simp only at e
    subst e
    obtain ⟨_, _, cu, hc⟩ := hp.own_lt hk
    rw [hb1] at hc
    cases hc

def RstS (w : World) (base bW bR : Nat) (L : List Int) (F : Nat → Prop) : Prop := ∃ p, RstAt w base bW bR p ∧ p.xs = L ∧ ∀ k, F k ↔ footW bW p k
def UpdW (F : Nat → Prop) (w w' : World) (base bW bR : Nat) (L : List Int) : Prop := ∃ F', RstS w' base bW bR L F' ∧ Mod F w w' ∧ ∀ k, F' k → F k ∨ w.heap.size ≤ k
theorem RstS.lt (h : RstS w base bW bR L F) {k : Nat} (hk : F k) : base ≤ k ∧ k < w.heap.size := by
  obtain ⟨p, h, _, hF⟩ := h
  exact h.foot_lt ((hF k).1 hk)
theorem RstS.mod (h : RstS w base bW bR L F) (hm : Mod G w w') (hG : ∀ k, F k → ¬ G k) : RstS w' base bW bR L F := by
  obtain ⟨p, h, e, hF⟩ := h
  exact ⟨p, h.mod hm (fun k hk => hG k ((hF k).2 hk)), e, hF⟩
theorem RstS.below (h : RstS w base bW bR L F) (hb : Below w.heap.size w w') : RstS w' base bW bR L F := h.mod (Mod.of_below (F := fun _ => False) hb) (fun _ _ e => e)
theorem RstS.upd (h : RstS w base bW bR L F) (hb : Below w.heap.size w w') : UpdW F w w' base bW bR L := ⟨F, h.below hb, Mod.of_below hb, fun _ hk => .inl hk⟩
theorem UpdW.after (hb : Below w.heap.size w w1) (h : UpdW F w1 w' base bW bR L) : UpdW F w w' base bW bR L := by
  obtain ⟨F', h1, h2, h3⟩ := h
  exact ⟨F', h1, (Mod.of_below hb).trans h2, fun k hk => (h3 k hk).imp id (fun h => Nat.le_trans hb.size h)⟩
theorem UpdW.then (h : UpdW F w w1 base bW bR L) (hb : Below w1.heap.size w1 w') : UpdW F w w' base bW bR L := by
  obtain ⟨F', h1, h2, h3⟩ := h
  exact ⟨F', h1.below hb, h2.trans (Mod.of_below hb), h3⟩
theorem RstAt.done {q : PartM} (h : RstAt w base bW bR p) (hF : ∀ k, F k ↔ footW bW p k) (hm : Mod (fun k => p.own = some k) w w1) (hq : PartAt w1 base q) (hx : q.xs = L) (ho : ∀ k, q.own = some k → p.own = some k ∨ w.heap.size ≤ k) :
    UpdW F w (w1.setCell ⟨bW, 1, none⟩ q.val) base bW bR L := by
  obtain ⟨R1, R2⟩ := h.set hm hq
  refine ⟨footW bW q, ⟨q, R1, hx, fun _ => Iff.rfl⟩, R2.mono (fun k _ hk => (hF k).2 hk), ?_⟩
  rintro k (rfl | hk)
  · exact .inl ((hF _).2 (.inl rfl))
  · exact (ho k hk).imp (fun e => (hF k).2 (.inr e)) id
theorem RstAt.cellM (h : RstAt w base bW bR p) (hm : Mod (fun k => p.own = some k) w w1) : w1.cell? ⟨bW, 1, none⟩ = some p.val ∧ w1.frozen? ⟨bW, 1, none⟩ = false := by
  have e : w1.heap[bW]? = _ := (hm.block bW h.lt h.ne).trans h.box
  exact ⟨by simp [World.cell?, e], by simp [World.frozen?, e]⟩
end

/-- A stack of the document's beside its arena. -/
structure LiveR (w : World) (base bW bR : Nat) (ks : List Key) (L : List Int) : Prop where
  ar : ∃ F, RfK w base bR ks F
  st : ∃ F, RstS w base bW bR L F
theorem LiveR.below {w w' : World} {base bW bR : Nat} {ks : List Key} {L : List Int} (h : LiveR w base bW bR ks L) (hb : Below w.heap.size w w') : LiveR w' base bW bR ks L := by
  obtain ⟨⟨F, h1⟩, ⟨G, h2⟩⟩ := h
  exact ⟨⟨F, h1.below hb⟩, ⟨G, h2.below hb⟩⟩
theorem RfK.most {w : World} {base bR : Nat} {ks : List Key} {F : Nat → Prop} (h : RfK w base bR ks F) : ks.length ≤ 32768 := by
  obtain ⟨os, ⟨g, cap, rs, h, e, _⟩, rfl⟩ := h
  rw [List.length_map, ← e, osOf_len]
  exact h.most
theorem LiveR.few {w : World} {base bW bR : Nat} {ks : List Key} {L : List Int} (h : LiveR w base bW bR ks L) (hg : Good ks L) : L.length ≤ 32768 := by
  obtain ⟨⟨FA, ha⟩, _⟩ := h
  exact Nat.le_trans hg.len ha.most

/-- A node of the document's arena in memory: its ten cells. -/
theorem RfK.open {w : World} {base bR : Nat} {ks : List Key} {F : Nat → Prop} (h : RfK w base bR ks F) {i : Nat} {q : Key} (hq : ks[i]? = some q) :
    ∃ g cap av kv, ∃ (r : OneM) (aa : Option Addr) (an ac : Nat) (ka : Option Addr) (kn kc : Nat), av = .slice aa an ac ∧ kv = .slice ka kn kc ∧ w.cell? ⟨bR, 0, none⟩ = some (.slice (some ⟨g, 0, none⟩) ks.length cap) ∧ i < ks.length ∧
      w.cell? ⟨g, i * 10, none⟩ = some (.int .i64 q.kind) ∧ w.cell? ⟨g, i * 10 + 1, none⟩ = some (.int .i64 q.space) ∧ w.cell? ⟨g, i * 10 + 2, none⟩ = some (.string q.name) ∧ w.cell? ⟨g, i * 10 + 3, none⟩ = some av ∧ w.cell? ⟨g, i * 10 + 4, none⟩ = some (.string r.data) ∧
      w.cell? ⟨g, i * 10 + 5, none⟩ = some (.string r.system) ∧ w.cell? ⟨g, i * 10 + 6, none⟩ = some (.int .i64 r.inner) ∧ w.cell? ⟨g, i * 10 + 7, none⟩ = some (.int .i64 r.host) ∧ w.cell? ⟨g, i * 10 + 8, none⟩ = some (.int .i64 r.up) ∧ w.cell? ⟨g, i * 10 + 9, none⟩ = some kv := by
  obtain ⟨os, ⟨g, cap, rs, h, rfl, _⟩, rfl⟩ := h
  have hlt := (List.getElem?_eq_some_iff.1 hq).1
  rw [List.length_map, osOf_len] at hlt
  obtain ⟨r, hr⟩ : ∃ r, rs[i]? = some r := ⟨_, List.getElem?_eq_getElem hlt⟩
  have hro := osOf_get hr
  rw [List.getElem?_map, hro] at hq
  cases hq
  obtain ⟨c0, c1, c2, c3, c4, c5, c6, c7, c8, c9⟩ := h.cells10 hr
  obtain ⟨aa, ac, ea, _⟩ := h.attrs i r hr
  obtain ⟨ka, kc, ek, _⟩ := h.kids i r hr
  refine ⟨g, cap, r.av, r.kv, r.o, aa, _, ac, ka, _, kc, ea, ek, ?_, ?_, c0, c1, c2, c3, c4, c5, c6, c7, c8, c9⟩
  · rw [List.length_map, osOf_len]; exact h.cR
  · rw [List.length_map, osOf_len]; exact hlt

section
variable {w : World} {base bW bR : Nat} {ks : List Key} {L : List Int} {F FA : Nat → Prop}
theorem rIs_any (h : RfK w base bR ks F) (id : Int) : Calls Try.prog 89 #[.pointer (some ⟨bR, 0, none⟩), .int .i64 id] w fun e w' => e = .returned (.bool (keyAt ks id).isSome) ∧ w = w' := by
  obtain ⟨os, ⟨g, cap, rs, h, rfl, _⟩, rfl⟩ := h
  have e : (keyAt ((osOf rs).map keyO) id).isSome = hasO (osOf rs) id := by
    unfold keyAt hasO
    by_cases h0 : 0 ≤ id
    · rw [if_pos h0]
      by_cases h1 : id < ((osOf rs).length : Int)
      · rw [List.getElem?_eq_getElem (by rw [List.length_map]; omega)]
        simp [h0, h1]
      · rw [List.getElem?_eq_none (by rw [List.length_map]; omega)]
        simp [h1]
    · rw [if_neg h0]
      simp [h0]
  rw [e]
  exact refIs_any h id

set_option maxHeartbeats 1000000 in
theorem rElement_any (h : RfK w base bR ks F) (id : Int) : Calls Try.prog 99 #[.pointer (some ⟨bR, 0, none⟩), .int .i64 id] w fun e w' => e = .returned (.bool (elOf ks id).isSome) ∧ w = w' := by
  have HI := hide (rIs_any h id)
  have hm := h.most
  cases hk : keyAt ks id with
  | none =>
    rw [hk] at HI
    rw [elOf_none hk]
    clear h hk hm
    go_enter Try.func99, Try.ntmps99
    go_wp2_with (go_at_call 89; refine (unhide HI).mono ?_; rintro e w1 ⟨rfl, rfl⟩)
    go_ret
    exact ⟨rfl, rfl⟩
  | some q =>
    rw [hk] at HI
    obtain ⟨i, rfl, hi⟩ := keyAt_some hk
    obtain ⟨g, cap, av, kv, r, aa, an, ac, ka, kn, kc, _, _, cR, hlt, c0, _⟩ := h.open hi
    have e0 : (elOf ks (i : Int)).isSome = (q.kind == 1) := by
      rw [elOf_key hk]
      by_cases h1 : q.kind = 1
      · rw [if_pos h1, h1]; rfl
      · rw [if_neg h1]
        have : (q.kind == 1) = false := by simpa using h1
        rw [this]
        rfl
    rw [e0]
    have hltz : (i : Int) < (ks.length : Int) := by omega
    have hmz : (ks.length : Int) ≤ 32768 := by omega
    generalize ks.length = n at *
    obtain ⟨qk, qs, qn⟩ := q
    simp only at *
    clear h hk hm hi e0
    go_enter Try.func99, Try.ntmps99
    go_wp2_with (go_at_call 89; refine (unhide HI).mono ?_; rintro e w1 ⟨rfl, rfl⟩)
    go_ret
    exact ⟨rfl, rfl⟩

set_option maxHeartbeats 1000000 in
theorem rIn_any (l : List ByteArray) (hl : l.length ≤ 1000) (n : ByteArray) (b : Nat) (ht : TabAt w b l) :
    Calls Try.prog 107 #[.slice (some ⟨b, 0, none⟩) l.length l.length, .string n] w fun e w' => e = .returned (.bool (hasT l n)) ∧ w = w' := by
  unfold hasT
  have HT := hide ht
  have hlz : (l.length : Int) ≤ 1000 := by omega
  clear ht hl
  go_enter Try.func107, Try.ntmps107
  go_wp2
  go_loopg [5] l.length (fun g s5 wr => ∃ j : Nat, j + g = l.length ∧ s5 = .int .i64 j ∧ wr = w ∧ (∀ i s, i < j → l[i]? = some s → (n.toList == s.toList) = false))
  case atStart => exact ⟨0, by omega, rfl, rfl, fun i s hi => absurd hi (Nat.not_lt_zero _)⟩
  case round =>
    obtain ⟨j, hjg, rfl, rfl, hno⟩ := hrel
    have HN := hide hno
    clear hno
    by_cases hj : j < l.length
    · have hjz : (j : Int) < (l.length : Int) := by omega
      obtain ⟨y, hy⟩ : ∃ y, l[j]? = some y := ⟨_, List.getElem?_eq_getElem hj⟩
      have hcell := (unhide HT).cells j y hy
      have HY := hide hy
      clear hy
      have hcomm : (y.toList == n.toList) = (n.toList == y.toList) := BEq.comm
      cases hq : (n.toList == y.toList) with
      | true =>
        have HQ := hide hq
        rw [hq] at hcomm
        go_wp2
        go_ret
        refine ⟨?_, rfl⟩
        rw [List.any_eq_true.2 ⟨y, List.mem_of_getElem? (unhide HY), unhide HQ⟩]
        rfl
      | false =>
        have HQ := hide hq
        rw [hq] at hcomm
        go_wp2
        go_roundg (gk - 1)
        case measure => omega
        case rel =>
          refine ⟨j + 1, by omega, by go_num, rfl, fun i s hi hs => ?_⟩
          by_cases e : i = j
          · subst e; rw [unhide HY] at hs; cases hs; exact unhide HQ
          · exact (unhide HN) i s (by omega) hs
    · have hjz : ¬ (j : Int) < (l.length : Int) := by omega
      obtain rfl : j = l.length := by omega
      go_wp2
      go_ret
      refine ⟨?_, rfl⟩
      have : (l.any fun x => n.toList == x.toList) = false := by
        rw [List.any_eq_false]
        intro s hs
        obtain ⟨i, hi⟩ := List.getElem?_of_mem hs
        rw [(unhide HN) i s (List.getElem?_eq_some_iff.1 hi).1 hi]
        exact Bool.false_ne_true
      rw [this]
      rfl

/-- What both questions read of the stack and of a node. -/
theorem LiveR.look (h : LiveR w base bW bR ks L) {id : Int} {c : Cal} (hc : elOf ks id = some c) : ∃ (i g cap : Nat), id = (i : Int) ∧ w.cell? ⟨bW, 0, none⟩ = some (.pointer (some ⟨bR, 0, none⟩)) ∧ w.cell? ⟨bR, 0, none⟩ = some (.slice (some ⟨g, 0, none⟩) ks.length cap) ∧ i < ks.length ∧ ks.length ≤ 32768 ∧
    w.cell? ⟨g, i * 10 + 1, none⟩ = some (.int .i64 c.space) ∧ w.cell? ⟨g, i * 10 + 2, none⟩ = some (.string c.name) := by
  obtain ⟨⟨FA, ha⟩, F, p, hs, _, _⟩ := h
  cases hk : keyAt ks id with
  | none => rw [elOf_none hk] at hc; cases hc
  | some q =>
    have e := elOf_key hk
    rw [hc] at e
    split at e
    · cases e
      obtain ⟨i, rfl, hi⟩ := keyAt_some hk
      obtain ⟨g, cap, av, kv, r, aa, an, ac, ka, kn, kc, _, _, cR, hlt, c0, c1, c2, _⟩ := ha.open hi
      exact ⟨i, g, cap, rfl, hs.cells.1, cR, hlt, ha.most, c1, c2⟩
    · cases e

set_option maxHeartbeats 2000000 in
theorem rNamed_any (h : LiveR w base bW bR ks L) (id : Int) (name : ByteArray) : Calls Try.prog 103 #[.pointer (some ⟨bW, 0, none⟩), .int .i64 id, .string name] w fun e w' => e = .returned (.bool ((elOf ks id).isSome && namedM (calOf ks id) name)) ∧ w = w' := by
  have HE := hide (rElement_any h.ar.choose_spec id)
  cases hc : elOf ks id with
  | none =>
    rw [hc] at HE
    obtain ⟨_, F, p, hs, _, _⟩ := h
    have c0 := hs.cells.1
    clear hs hc
    go_enter Try.func103, Try.ntmps103
    go_wp2_with (go_at_call 99; refine (unhide HE).mono ?_; rintro e w1 ⟨rfl, rfl⟩)
    go_ret
    exact ⟨rfl, rfl⟩
  | some c =>
    rw [hc] at HE
    have ecal : calOf ks id = c := by unfold calOf; rw [hc]; rfl
    rw [ecal, namedM_eq]
    obtain ⟨i, g, cap, rfl, c0, cR, hlt, hm, c1, c2⟩ := h.look hc
    have hltz : (i : Int) < (ks.length : Int) := by omega
    have hmz : (ks.length : Int) ≤ 32768 := by omega
    generalize ks.length = n at *
    obtain ⟨cs, cn⟩ := c
    simp only at *
    clear h hc ecal hlt hm
    cases h1 : (cs == 0) with
    | true =>
      go_enter Try.func103, Try.ntmps103
      go_wp2_with (go_at_call 99; refine (unhide HE).mono ?_; rintro e w1 ⟨rfl, rfl⟩)
      go_ret
      exact ⟨rfl, rfl⟩
    | false =>
      go_enter Try.func103, Try.ntmps103
      go_wp2_with (go_at_call 99; refine (unhide HE).mono ?_; rintro e w1 ⟨rfl, rfl⟩)
      go_ret
      exact ⟨rfl, rfl⟩

set_option maxHeartbeats 2000000 in
theorem rOf_any (h : LiveR w base bW bR ks L) (id : Int) (l : List ByteArray) (hl : l.length ≤ 1000) (b : Nat) (ht : TabAt w b l) : Calls Try.prog 90 #[.pointer (some ⟨bW, 0, none⟩), .int .i64 id, .slice (some ⟨b, 0, none⟩) l.length l.length] w fun e w' => e = .returned (.bool ((elOf ks id).isSome && amongM (calOf ks id) 0 l)) ∧ w = w' := by
  have HE := hide (rElement_any h.ar.choose_spec id)
  have HI := hide (fun n => rIn_any l hl n b ht)
  generalize l.length = ll at *
  cases hc : elOf ks id with
  | none =>
    rw [hc] at HE
    obtain ⟨_, F, p, hs, _, _⟩ := h
    have c0 := hs.cells.1
    clear hs hc hl
    go_enter Try.func90, Try.ntmps90
    go_wp2_with (go_at_call 99; refine (unhide HE).mono ?_; rintro e w1 ⟨rfl, rfl⟩)
    go_ret
    exact ⟨rfl, rfl⟩
  | some c =>
    rw [hc] at HE
    have ecal : calOf ks id = c := by unfold calOf; rw [hc]; rfl
    rw [ecal]
    unfold amongM
    obtain ⟨i, g, cap, rfl, c0, cR, hlt, hm, c1, c2⟩ := h.look hc
    have hltz : (i : Int) < (ks.length : Int) := by omega
    have hmz : (ks.length : Int) ≤ 32768 := by omega
    generalize ks.length = n at *
    obtain ⟨cs, cn⟩ := c
    simp only at *
    clear h hc ecal hlt hm hl
    cases h1 : (cs == 0) with
    | true =>
      go_enter Try.func90, Try.ntmps90
      go_wp2_with (first | (go_at_call 99; refine (unhide HE).mono ?_; rintro e w1 ⟨rfl, rfl⟩) | (go_at_call 107; refine ((unhide HI) _).mono ?_; rintro e w1 ⟨rfl, rfl⟩))
      go_ret
      exact ⟨rfl, rfl⟩
    | false =>
      go_enter Try.func90, Try.ntmps90
      go_wp2_with (go_at_call 99; refine (unhide HE).mono ?_; rintro e w1 ⟨rfl, rfl⟩)
      go_ret
      exact ⟨rfl, rfl⟩

theorem rAt_any (h : RstS w base bW bR L F) (i : Int) : Calls Try.prog 58 #[.pointer (some ⟨bW, 0, none⟩), .int .i64 i] w fun e w' => e = .returned (.int .i64 (atM L i)) ∧ w = w' := by
  obtain ⟨p, h, rfl, _⟩ := h
  obtain ⟨c0, c1, _⟩ := h.cells
  unfold PartM.val at c1
  by_cases hi : i < 0
  · rw [atM_out (.inl hi)]
    clear h
    go_enter Try.func58, Try.ntmps58
    go_wp2
    go_ret
    exact ⟨rfl, rfl⟩
  · by_cases hj : (p.xs.length : Int) ≤ i
    · rw [atM_out (.inr hj)]
      generalize p.xs.length = n at *
      clear h
      go_enter Try.func58, Try.ntmps58
      go_wp2
      go_ret
      exact ⟨rfl, rfl⟩
    · obtain ⟨k, rfl⟩ : ∃ k : Nat, i = (k : Int) := ⟨i.toNat, by omega⟩
      obtain ⟨x, hx⟩ : ∃ x, p.xs[k]? = some x := ⟨_, List.getElem?_eq_getElem (by omega)⟩
      rw [atM_in hx]
      obtain ⟨g, off, ha, hg⟩ := h.part.nums k x hx
      rw [ha] at c1
      have hz : (k : Int) < (p.xs.length : Int) := by omega
      generalize p.xs.length = n at *
      clear h hx ha
      go_enter Try.func58, Try.ntmps58
      go_wp2
      go_ret
      exact ⟨rfl, rfl⟩

theorem rTop_any (h : RstS w base bW bR L F) (hl : L.length ≤ 32768) : Calls Try.prog 59 #[.pointer (some ⟨bW, 0, none⟩)] w fun e w' => e = .returned (.int .i64 (topM L)) ∧ w = w' := by
  have HA := hide (rAt_any h ((L.length : Int) - 1))
  obtain ⟨p, h, rfl, _⟩ := h
  obtain ⟨c0, c1, _⟩ := h.cells
  unfold PartM.val at c1
  unfold topM
  have hz : (p.xs.length : Int) ≤ 32768 := by omega
  generalize atM p.xs ((p.xs.length : Int) - 1) = r at *
  generalize p.xs.length = n at *
  clear h hl
  go_enter Try.func59, Try.ntmps59
  go_wp2_with (go_at_call 58; refine (unhide HA).mono ?_; rintro e w' ⟨rfl, rfl⟩)
  go_ret
  exact ⟨rfl, rfl⟩

set_option maxHeartbeats 1000000 in
theorem rFind_any (h : RstS w base bW bR L F) (hl : L.length ≤ 32768) (hn : L.Nodup) (x : Int) : Calls Try.prog 14 #[.pointer (some ⟨bW, 0, none⟩), .int .i64 x] w fun e w' => e = .returned (.int .i64 (findM L x)) ∧ w = w' := by
  obtain ⟨p, h, rfl, _⟩ := h
  obtain ⟨c0, c1, _⟩ := h.cells
  have HP : Hid (NumsIn w p.a p.xs) := hide h.part.nums
  unfold PartM.val at c1
  have HN := hide hn
  have hz : (p.xs.length : Int) ≤ 32768 := by omega
  obtain ⟨pa, pc, px⟩ := p
  simp only at *
  clear h hl hn
  go_enter Try.func14, Try.ntmps14
  go_wp2
  go_loopg [5] px.length (fun g s5 wr => s5 = .int .i64 ((g : Int) - 1) ∧ g ≤ px.length ∧ wr = w ∧ ∀ j y, g ≤ j → px[j]? = some y → y ≠ x)
  case atStart => exact ⟨rfl, Nat.le_refl _, rfl, fun j y hj hy => by have := (List.getElem?_eq_some_iff.1 hy).1; omega⟩
  case round =>
    obtain ⟨rfl, hgl, rfl, hno⟩ := hrel
    have HNO := hide hno
    clear hno
    cases gk with
    | zero =>
      go_wp2
      go_ret
      refine ⟨?_, rfl⟩
      rw [findM_out (fun hm => by obtain ⟨i, hi⟩ := List.getElem?_of_mem hm; exact (unhide HNO) i x (Nat.zero_le _) hi rfl)]
      rfl
    | succ n =>
      obtain ⟨y, hy⟩ : ∃ y, px[n]? = some y := ⟨_, List.getElem?_eq_getElem (by omega)⟩
      obtain ⟨g, off, rfl, hcell⟩ := (unhide HP) n y hy
      have e1 : (((n + 1 : Nat) : Int) - 1) = (n : Int) := by omega
      rw [e1]
      have HY := hide hy
      have hnz : (n : Int) < (px.length : Int) := by omega
      have hn0 : (0 : Int) ≤ (n : Int) := by omega
      have HGL := hide hgl
      clear hy e1 hgl
      cases hq : (y == x) with
      | true =>
        have HQ := hide hq
        go_wp2
        go_ret
        have e := eq_of_beq (unhide HQ)
        have hf : FindR px x (n : Int) := .inr ⟨n, rfl, by rw [unhide HY, e]⟩
        refine ⟨?_, rfl⟩
        rw [← hf.eq (unhide HN)]
        rfl
      | false =>
        have HQ := hide hq
        go_wp2
        go_roundg n
        case measure => omega
        case rel =>
          refine ⟨by go_num, by have := unhide HGL; omega, rfl, fun j z hj hz => ?_⟩
          by_cases e : j = n
          · subst e; rw [unhide HY] at hz; cases hz
            have := unhide HQ
            simpa using this
          · exact (unhide HNO) j z (by omega) hz
end
end Go.Proofs.Ytmllhebmaldgfaa
/-
  The document's stack: elements pushed, popped, put in, swapped and taken out.
-/
namespace Go.Proofs.Ytmllhebmaldgfaa
open Go.RowKit

theorem PartAt.rest {w : World} {base : Nat} {p : PartM} (h : PartAt w base p) (k : Nat) (hk : k ≤ p.xs.length) {ad : Addr} (ha : p.a = some ad) : NumsIn w (if p.cap = k then some ad else some (ad.add k)) (p.xs.drop k) := by
  have hl := h.len
  by_cases e : p.cap = k
  · rw [if_pos e]
    intro j x hj
    rw [List.drop_of_length_le (by omega)] at hj
    simp at hj
  · rw [if_neg e]
    obtain ⟨g, off, cur, ha', _⟩ := h.cellsAll (by omega)
    rw [ha] at ha'
    cases ha'
    rw [add_at]
    have hn := h.nums
    rw [ha] at hn
    exact hn.drop k
theorem PartAt.none_cap {w : World} {base : Nat} {p : PartM} (h : PartAt w base p) (ha : p.a = none) : p.cap = 0 := by
  rcases h.lies with h0 | ⟨g, off, cur, e, _⟩
  · exact h0
  · rw [ha] at e; cases e

section
variable {w : World} {base bW bR : Nat} {ks : List Key} {L : List Int} {F FA : Nat → Prop}
theorem LiveR.mk' (ha : RfK w base bR ks FA) (hs : RstS w base bW bR L F) : LiveR w base bW bR ks L := ⟨⟨FA, ha⟩, ⟨F, hs⟩⟩

theorem rNew_any (hb : base ≤ w.heap.size) : Calls Try.prog 11 #[.pointer (some ⟨bR, 0, none⟩)] w fun e w' => ∃ bW F, e = .returned (.pointer (some ⟨bW, 0, none⟩)) ∧ RstS w' base bW bR [] F ∧ Below w.heap.size w w' ∧ ∀ k, F k → w.heap.size ≤ k := by
  have HB := hide hb
  clear hb
  go_enter Try.func11, Try.ntmps11
  go_wp2
  go_ret
  refine ⟨_, _, rfl, ⟨⟨none, 0, []⟩, ⟨heap_alloc_new w _, PartAt.nil _ _ _, unhide HB⟩, rfl, fun k => Iff.rfl⟩, below_new _ _, ?_⟩
  rintro k (rfl | hk)
  · omega
  · simp [PartM.own] at hk

set_option maxHeartbeats 2000000 in
theorem rPush_any (ha : RfK w base bR ks FA) (hs : RstS w base bW bR L F) (hg : Good ks L) (id : Int) : Calls Try.prog 39 #[.pointer (some ⟨bW, 0, none⟩), .int .i64 id] w fun e w' =>
    e = .returned (.int .i64 (enterE ks L id)) ∧ UpdW F w w' base bW bR (pushL ks L id) := by
  have hl := (LiveR.mk' ha hs).few hg
  have HE := hide (rElement_any ha id)
  have HF := hide (rFind_any hs hl hg.nodup id)
  have HS := hide hs
  obtain ⟨p, h, rfl, hF⟩ := hs
  obtain ⟨c0, c1, cf⟩ := h.cells
  unfold pushL enterE
  have hlt := h.lt
  have HH := hide h
  have HFF := hide hF
  have HL := hide hl
  clear ha hg h hF hl
  cases he : (elOf ks id).isSome with
  | false =>
    rw [he] at HE
    go_enter Try.func39, Try.ntmps39
    go_wp2_with (go_at_call 99; refine (unhide HE).mono ?_; rintro e w1 ⟨rfl, rfl⟩)
    go_ret
    exact ⟨rfl, by simpa using (unhide HS).upd (Below.refl _ _)⟩
  | true =>
    rw [he] at HE
    by_cases hm : id ∈ p.xs
    · obtain ⟨j, hj, _⟩ := findM_in hm
      rw [hj] at HF
      rw [if_pos rfl, if_pos hm, if_neg (by decide)]
      have hz : (0 : Int) ≤ (j : Int) := by omega
      clear he hm hj
      go_enter Try.func39, Try.ntmps39
      go_wp2_with (first | (go_at_call 99; refine (unhide HE).mono ?_; rintro e w1 ⟨rfl, rfl⟩) | (go_at_call 14; refine (unhide HF).mono ?_; rintro e w1 ⟨rfl, rfl⟩))
      go_ret
      exact ⟨rfl, (unhide HS).upd (Below.refl _ _)⟩
    · rw [findM_out hm] at HF
      rw [if_pos rfl, if_neg hm, if_pos rfl]
      have f1 := cf 1
      clear he hm cf
      have key : ∀ (w3 : World) (q : PartM), PartAt w3 base q → q.xs = p.xs ++ [id] → (w.alloc (.cells #[.int .i64 id] 3)).grownBy w3 p.own → (q.own = p.own ∨ q.own = some (w.heap.size + 1)) → UpdW F w (w3.setCell ⟨bW, 1, none⟩ q.val) base bW bR (p.xs ++ [id]) ∧ w3.cell? ⟨bW, 1, none⟩ = some p.val ∧ w3.frozen? ⟨bW, 1, none⟩ = false := by
        intro w3 q h1 h2 h3 h4
        have M : Mod (fun k => p.own = some k) w w3 := (Mod.of_below (below_new w _)).trans (Mod.grown h3 (fun k hk => hk))
        refine ⟨(unhide HH).done (unhide HFF) M h1 h2 (fun k hk => ?_), (unhide HH).cellM M⟩
        rcases h4 with e | e
        · exact .inl (e ▸ hk)
        · rw [e] at hk; simp at hk; exact .inr (by omega)
      have HK := hide key
      clear key
      go_enter Try.func39, Try.ntmps39
      go_wp2_with (first | (go_at_call 99; refine (unhide HE).mono ?_; rintro e w1 ⟨rfl, rfl⟩) | (go_at_call 14; refine (unhide HF).mono ?_; rintro e w1 ⟨rfl, rfl⟩) | (at_builtin; go_must (refine wpList_part_n (base := base) (p := p) (by rfl) _ _ (by rfl) (by rfl) (some ⟨w.heap.size, 0, none⟩) [id] 1 1 rfl (by rfl) ((unhide HH).part.below (below_new _ _)) (by have := (unhide HH).lo; simp; omega) (one_num w id) (by have := unhide HL; simp; omega) ?_); intro q w3 g1 g2 g3 g4; obtain ⟨k1, k2, k3⟩ := (unhide HK) w3 q g1 g2 g3 (by simpa using g4); have HK1 := hide k1; clear g1 g2 g3 g4 k1; obtain ⟨qa, qc, qx⟩ := q; simp only [PartM.val] at HK1 ⊢))
      go_ret
      exact ⟨rfl, unhide HK1⟩

set_option maxHeartbeats 2000000 in
theorem rPop_any (hs : RstS w base bW bR L F) (hl : L.length ≤ 32768) : Calls Try.prog 40 #[.pointer (some ⟨bW, 0, none⟩)] w fun e w' =>
    e = .returned (.int .i64 (topM L)) ∧ UpdW F w w' base bW bR (popL L) := by
  have HT := hide (rTop_any hs hl)
  have HS := hide hs
  obtain ⟨p, h, rfl, hF⟩ := hs
  obtain ⟨c0, c1, cf⟩ := h.cells
  have f1 := cf 1
  by_cases h0 : p.xs = []
  · have hn : p.xs.length = 0 := by rw [h0]; rfl
    have e1 : popL p.xs = p.xs := by rw [h0]; rfl
    rw [e1]
    unfold PartM.val at c1
    rw [hn] at c1
    generalize topM p.xs = t at *
    clear h hF hn h0 e1 cf hl
    go_enter Try.func40, Try.ntmps40
    go_wp2_with (go_at_call 59; refine (unhide HT).mono ?_; rintro e w1 ⟨rfl, rfl⟩)
    go_ret
    exact ⟨rfl, (unhide HS).upd (Below.refl _ _)⟩
  · have hpos := List.length_pos_iff.2 h0
    have hcut := h.part.cut (p.xs.length - 1) (by omega)
    have hfin : ∀ n, UpdW F w ((w.drewN n).setCell ⟨bW, 1, none⟩ (.slice p.a (p.xs.length - 1) p.cap)) base bW bR (popL p.xs) := by
      intro n
      have B := below_dn (Below.refl w.heap.size w) n
      have := h.done hF (w1 := w.drewN n) (L := popL p.xs) (Mod.of_below B) (hcut.below B) rfl (fun k hk => .inl hk)
      unfold PartM.val at this
      simp only [List.length_take] at this
      rw [show min (p.xs.length - 1) p.xs.length = p.xs.length - 1 by omega] at this
      exact this
    obtain ⟨g, off, ha, hcell0⟩ := h.part.nums 0 _ (List.getElem?_eq_getElem hpos)
    clear hcell0
    have hcap := h.part.len
    have hmost := h.part.most
    unfold PartM.val at c1
    rw [ha] at c1 hfin
    have HFIN := hide hfin
    have hlz : (p.xs.length : Int) ≤ 32768 := by omega
    have hlz1 : (1 : Int) ≤ (p.xs.length : Int) := by omega
    have hp0 : (0 : Int) < (p.xs.length : Int) := by omega
    have hcz : (p.xs.length : Int) ≤ (p.cap : Int) := by omega
    have hw : IntKind.i64.wrap ((p.xs.length : Int) - 1) = ((p.xs.length - 1 : Nat) : Int) := by rw [IntKind.wrap_i64]; omega
    have hsub : ((p.xs.length : Int) - 1) = ((p.xs.length - 1 : Nat) : Int) := by omega
    generalize hm : p.xs.length - 1 = m at *
    have hmc : (m : Int) ≤ (p.cap : Int) := by omega
    generalize p.xs.length = n at *
    generalize topM p.xs = t at *
    generalize popL p.xs = L2 at *
    obtain ⟨pa, pc, px⟩ := p
    simp only at *
    unfold maxLen at hmost
    have HM := hide hmost
    clear h hF hcut hfin ha hl hpos h0 cf hm hmost hcap
    go_enter Try.func40, Try.ntmps40
    go_wp2_with (go_at_call 59; refine (unhide HT).mono ?_; rintro e w1 ⟨rfl, rfl⟩)
    go_region
    all_goals go_wp2
    all_goals go_ret
    all_goals exact ⟨rfl, (unhide HFIN) _⟩
end
end Go.Proofs.Ytmllhebmaldgfaa
/-
  The document's stack: an element taken out, put in, swapped.
-/
namespace Go.Proofs.Ytmllhebmaldgfaa
open Go.RowKit

section
variable {w : World} {base bW bR : Nat} {ks : List Key} {L : List Int} {F FA : Nat → Prop} {p : PartM}

/-- What lies where only new blocks were written. -/
theorem RstAt.later (h : RstAt w base bW bR p) {w2 : World} (hb : Below w.heap.size w w2) : w2.cell? ⟨bW, 1, none⟩ = some p.val ∧ w2.frozen? ⟨bW, 1, none⟩ = false ∧ w2.cell? ⟨bW, 0, none⟩ = some (.pointer (some ⟨bR, 0, none⟩)) := by
  have := (h.below hb).cells
  exact ⟨this.2.1, this.2.2 1, this.1⟩
/-- A first list made of nothing. -/
theorem first_part {w2 : World} {q : PartM} (hg : (w.alloc (.cells #[] 3)).grownBy w2 none) (ho : q.own = none ∨ q.own = some (w.heap.size + 1)) : Below w.heap.size w w2 ∧ ∀ k, q.own = some k → w.heap.size ≤ k := by
  refine ⟨(below_new w _).trans ((Mod.grown (F := fun _ => False) hg (fun k hk => by cases hk)).below (by simp) (fun k hk => hk.elim)), fun k hk => ?_⟩
  rcases ho with e | e
  · rw [e] at hk; cases hk
  · rw [e] at hk; simp at hk; omega
/-- A second list made of a first one that is new. -/
theorem second_part {w2 w3 : World} {q q2 : PartM} {o : Obj} (hb : Below w.heap.size w w2) (hq : ∀ k, q.own = some k → w.heap.size ≤ k) (hg : (w2.alloc o).grownBy w3 q.own) (ho : q2.own = q.own ∨ q2.own = some (w2.alloc o).heap.size) : Below w.heap.size w w3 ∧ ∀ k, q2.own = some k → w.heap.size ≤ k := by
  have b1 : Below w.heap.size w (w2.alloc o) := hb.alloc hb.size o
  refine ⟨b1.trans ((Mod.grown (F := fun k => q.own = some k) hg (fun k hk => hk)).below b1.size (fun k hk => hq k hk)), fun k hk => ?_⟩
  rcases ho with e | e
  · exact hq k (e ▸ hk)
  · rw [e] at hk
    simp at hk
    have := hb.size
    omega
/-- The list that an append made of a new one, laid into the stack. -/
theorem RstAt.fresh (h : RstAt w base bW bR p) (hF : ∀ k, F k ↔ footW bW p k) {w2 w3 : World} {q q2 : PartM} {L2 : List Int} (hb : Below w.heap.size w w2) (hq : ∀ k, q.own = some k → w.heap.size ≤ k) (h1 : PartAt w3 base q2) (h2 : q2.xs = L2) (h3 : w2.grownBy w3 q.own) (h4 : q2.own = q.own ∨ q2.own = some w2.heap.size) :
    UpdW F w (w3.setCell ⟨bW, 1, none⟩ q2.val) base bW bR L2 ∧ w3.cell? ⟨bW, 1, none⟩ = some p.val ∧ w3.frozen? ⟨bW, 1, none⟩ = false := by
  have M : Mod (fun k => p.own = some k) w w3 := (Mod.of_below hb).then (Mod.grown (F := fun k => q.own = some k) h3 (fun k hk => hk)) (fun k hk => .inr (hq k hk))
  refine ⟨h.done hF M h1 h2 (fun k hk => .inr ?_), h.cellM M⟩
  rcases h4 with e | e
  · exact hq k (e ▸ hk)
  · rw [e] at hk
    simp at hk
    have := hb.size
    omega

set_option maxHeartbeats 4000000 in
theorem rRemove_any (hs : RstS w base bW bR L F) (hl : L.length ≤ 32768) (hn : L.Nodup) (id : Int) : Calls Try.prog 42 #[.pointer (some ⟨bW, 0, none⟩), .int .i64 id] w fun e w' =>
    e = .returned (.int .i64 (removeE L id)) ∧ UpdW F w w' base bW bR (removeL L id) := by
  have HF := hide (rFind_any hs hl hn id)
  have HS := hide hs
  obtain ⟨p, h, rfl, hF⟩ := hs
  obtain ⟨c0, c1, cf⟩ := h.cells
  unfold removeE removeL
  by_cases hm : id ∈ p.xs
  · obtain ⟨j, hj, hj2, hj3⟩ := findM_in hm
    have hji : p.xs.idxOf id = j := idxOf_at hn hj2
    rw [if_pos hm, if_pos hm, hji]
    rw [hj] at HF
    obtain ⟨g, off, ha, _⟩ := h.part.nums j _ hj2
    have hcap := h.part.len
    have hmost := h.part.most
    have hrest : ∀ w2, Below w.heap.size w w2 → (p.cap = j + 1 → NumsIn w2 (some ⟨g, off, none⟩) (p.xs.drop (j + 1))) ∧ (p.cap ≠ j + 1 → NumsIn w2 (some ⟨g, off + (j + 1), none⟩) (p.xs.drop (j + 1))) := fun w2 hb => by
      have := (h.part.below (w' := w2) hb).rest (j + 1) (by omega) ha
      exact ⟨fun e => by rw [if_pos e] at this; exact this, fun e => by rw [if_neg e, add_at] at this; exact this⟩
    have htake := fun w2 hb => ((h.part.below (w' := w2) hb).nums).take j
    rw [ha] at htake
    obtain ⟨k, hk⟩ : ∃ k : Nat, k = j + 1 := ⟨_, rfl⟩
    rw [← hk] at hrest ⊢
    have hjk : (j : Int) + 1 = (k : Int) := by omega
    have hw : IntKind.i64.wrap ((j : Int) + 1) = (k : Int) := by rw [IntKind.wrap_i64]; omega
    have HD : Hid (([] : List Int) ++ p.xs.take j = p.xs.take j ∧ (p.xs.take j).length = j ∧ (p.xs.drop k).length = p.xs.length - k ∧ (p.xs.take j).length + (p.xs.drop k).length ≤ 32768) := hide ⟨rfl, by simp; omega, by simp, by simp; omega⟩
    have HREST := hide hrest
    have HTAKE := hide htake
    have HH := hide h
    have HFF := hide hF
    have hnl : ∃ n, p.xs.length = n := ⟨_, rfl⟩
    obtain ⟨n, hnn⟩ := hnl
    have hkn : (k : Int) ≤ (n : Int) := by omega
    have hjn : (j : Int) ≤ (n : Int) := by omega
    have hj0 : (0 : Int) ≤ (j : Int) := by omega
    have hnc : (n : Int) ≤ (p.cap : Int) := by omega
    have hjc : (j : Int) ≤ (p.cap : Int) := by omega
    have hn32 : (n : Int) ≤ 32768 := by omega
    have hpz : (p.cap : Int) ≤ 9223372036854775807 := by unfold maxLen at hmost; omega
    have HLAT : Hid (∀ w2, Below w.heap.size w w2 → w2.cell? ⟨bW, 1, none⟩ = some (.slice (some ⟨g, off, none⟩) n p.cap)) := hide (fun w2 hb => by
      have := ((unhide HH).later hb).1
      unfold PartM.val at this
      rw [ha, hnn] at this
      exact this)
    have HSZ : Hid (base ≤ w.heap.size) := hide (by have := h.lo; have := h.lt; omega)
    have c1' := (unhide HLAT) w (Below.refl _ _)
    have hltW := h.lt
    rw [hnn] at HD
    clear c1 cf h hF hl hn hm hj hj2 hj3 hji ha hcap hmost hrest htake hk hnn
    generalize p.cap = pc at *
    by_cases hck : pc = k
    · subst hck
      go_enter Try.func42, Try.ntmps42
      go_wp2_with (first | (go_at_call 14; refine (unhide HF).mono ?_; rintro e w' ⟨rfl, rfl⟩) | (have _x := unhide Q1; clear _x; at_builtin; go_must (refine wpList_part_n (base := base) (p := q) (by rfl) _ _ (by rfl) (by rfl) (some ⟨g, off, none⟩) (p.xs.drop pc) (n - pc) (0) (unhide HD).2.2.1 (by rfl) (unhide Q1) (by have := unhide HSZ; have := (unhide Q3).size; omega) (((unhide HREST) _ (unhide Q3)).1 (by simp)) (by have := (unhide HD).2.2.2; rw [unhide Q2]; simp only [List.nil_append]; omega) ?_); intro q2 w3 g1 g2 g3 g4; obtain ⟨k1, k2, k3⟩ := (unhide HH).fresh (unhide HFF) (unhide Q3) (unhide Q4) g1 (L2 := p.xs.take j ++ p.xs.drop pc) (by rw [g2, unhide Q2]; rfl) g3 g4; have HK1 := hide k1; clear g1 g2 g3 g4 k1; obtain ⟨qa, qc, qx⟩ := q2; simp only [PartM.val] at HK1 ⊢) | (at_builtin; go_must (refine wpList_part_n (base := base) (p := ⟨some ⟨w.heap.size, 0, none⟩, 0, []⟩) (by rfl) _ _ (by rfl) (by rfl) (some ⟨g, off, none⟩) (p.xs.take j) j pc (unhide HD).2.1 (by rfl) (PartAt.nil _ _ _) (by have := unhide HSZ; simp; omega) ((unhide HTAKE) _ (below_new _ _)) (by have := (unhide HD).2.2.2; simp only [List.length_nil]; omega) ?_); intro q w2 g1 g2 g3 g4; obtain ⟨fb, fo⟩ := first_part (q := q) g3 (by simpa [PartM.own] using g4); have hc2 := (unhide HLAT) w2 fb; have Q1 := hide g1; have Q2 := hide g2; have Q3 := hide fb; have Q4 := hide fo; clear g1 g2 g3 g4 fb fo))
      go_ret
      exact ⟨rfl, unhide HK1⟩
    · skip
      go_enter Try.func42, Try.ntmps42
      go_wp2_with (first | (go_at_call 14; refine (unhide HF).mono ?_; rintro e w' ⟨rfl, rfl⟩) | (have _x := unhide Q1; clear _x; at_builtin; go_must (refine wpList_part_n (base := base) (p := q) (by rfl) _ _ (by rfl) (by rfl) (some ⟨g, off + k, none⟩) (p.xs.drop k) (n - k) (pc - k) (unhide HD).2.2.1 (by rfl) (unhide Q1) (by have := unhide HSZ; have := (unhide Q3).size; omega) (((unhide HREST) _ (unhide Q3)).2 hck) (by have := (unhide HD).2.2.2; rw [unhide Q2]; simp only [List.nil_append]; omega) ?_); intro q2 w3 g1 g2 g3 g4; obtain ⟨k1, k2, k3⟩ := (unhide HH).fresh (unhide HFF) (unhide Q3) (unhide Q4) g1 (L2 := p.xs.take j ++ p.xs.drop k) (by rw [g2, unhide Q2]; rfl) g3 g4; have HK1 := hide k1; clear g1 g2 g3 g4 k1; obtain ⟨qa, qc, qx⟩ := q2; simp only [PartM.val] at HK1 ⊢) | (at_builtin; go_must (refine wpList_part_n (base := base) (p := ⟨some ⟨w.heap.size, 0, none⟩, 0, []⟩) (by rfl) _ _ (by rfl) (by rfl) (some ⟨g, off, none⟩) (p.xs.take j) j pc (unhide HD).2.1 (by rfl) (PartAt.nil _ _ _) (by have := unhide HSZ; simp; omega) ((unhide HTAKE) _ (below_new _ _)) (by have := (unhide HD).2.2.2; simp only [List.length_nil]; omega) ?_); intro q w2 g1 g2 g3 g4; obtain ⟨fb, fo⟩ := first_part (q := q) g3 (by simpa [PartM.own] using g4); have hc2 := (unhide HLAT) w2 fb; have Q1 := hide g1; have Q2 := hide g2; have Q3 := hide fb; have Q4 := hide fo; clear g1 g2 g3 g4 fb fo))
      go_ret
      exact ⟨rfl, unhide HK1⟩
  · rw [if_neg hm, if_neg hm]
    rw [findM_out hm] at HF
    clear h hF hl hn hm
    go_enter Try.func42, Try.ntmps42
    go_wp2_with (go_at_call 14; refine (unhide HF).mono ?_; rintro e w' ⟨rfl, rfl⟩)
    go_ret
    exact ⟨rfl, (unhide HS).upd (Below.refl _ _)⟩
end
end Go.Proofs.Ytmllhebmaldgfaa
/-
  The document's stack: an element put in.
-/
namespace Go.Proofs.Ytmllhebmaldgfaa
open Go.RowKit

section
variable {w : World} {base bW bR : Nat} {ks : List Key} {L : List Int} {F FA : Nat → Prop} {p : PartM}

set_option maxHeartbeats 4000000 in
theorem rPut_in (hs : RstS w base bW bR L F) (hl : L.length ≤ 32768) (k : Nat) (hk : k ≤ L.length) (id : Int) (hE : Calls Try.prog 99 #[.pointer (some ⟨bR, 0, none⟩), .int .i64 id] w fun e w' => e = .returned (.bool true) ∧ w = w') (hFd : Calls Try.prog 14 #[.pointer (some ⟨bW, 0, none⟩), .int .i64 id] w fun e w' => e = .returned (.int .i64 (-1)) ∧ w = w') :
    Calls Try.prog 44 #[.pointer (some ⟨bW, 0, none⟩), .int .i64 (k : Int), .int .i64 id] w fun e w' => e = .returned (.int .i64 0) ∧ UpdW F w w' base bW bR (L.take k ++ id :: L.drop k) := by
  have HE := hide hE
  have HF := hide hFd
  obtain ⟨p, h, rfl, hF⟩ := hs
  obtain ⟨c0, c1, cf⟩ := h.cells
  have hcap := h.part.len
  have hmost := h.part.most
  have hltW := h.lt
  have HH := hide h
  have HFF := hide hF
  have HD : Hid ((p.xs.take k).length = k ∧ (p.xs.drop k).length = p.xs.length - k ∧ (p.xs.take k).length + 1 + (p.xs.drop k).length ≤ 40000) := hide ⟨by simp; omega, by simp, by simp; omega⟩
  have hkn : (k : Int) ≤ (p.xs.length : Int) := by omega
  have hk0 : (0 : Int) ≤ (k : Int) := by omega
  have hk0' : ¬ (k : Int) < 0 := by omega
  have hkn' : ¬ (p.xs.length : Int) < (k : Int) := by omega
  have hnc : (p.xs.length : Int) ≤ (p.cap : Int) := by omega
  have hkc : (k : Int) ≤ (p.cap : Int) := by omega
  have hn32 : (p.xs.length : Int) ≤ 32768 := by omega
  have hpz : (p.cap : Int) ≤ 9223372036854775807 := by unfold maxLen at hmost; omega
  have HSZ : Hid (base ≤ w.heap.size) := hide (by have := h.lo; have := h.lt; omega)
  have HTAKE : Hid (∀ w2, Below w.heap.size w w2 → NumsIn w2 p.a (p.xs.take k)) := hide (fun w2 hb => ((h.part.below (w' := w2) hb).nums).take k)
  cases ha : p.a with
  | none =>
    have hc0 : p.cap = 0 := h.part.none_cap ha
    have hn0 : p.xs.length = 0 := by omega
    obtain rfl : k = 0 := by omega
    have HREST : Hid (∀ w2, NumsIn w2 none (p.xs.drop 0)) := hide (fun w2 j x hj => by
      have := (List.getElem?_eq_some_iff.1 hj).1
      rw [List.drop_zero, hn0] at this
      omega)
    have HLAT : Hid (∀ w2, Below w.heap.size w w2 → w2.cell? ⟨bW, 1, none⟩ = some (.slice none 0 0)) := hide (fun w2 hb => by
      have := ((unhide HH).later hb).1
      unfold PartM.val at this
      rw [ha, hn0, hc0] at this
      exact this)
    have c1' := (unhide HLAT) w (Below.refl _ _)
    rw [ha] at HTAKE
    rw [hn0] at HD
    clear c1 cf h hF hl hcap hmost hE hFd hkn hkn' hnc hkc hn32 hpz ha hc0 hn0 hk
    go_enter Try.func44, Try.ntmps44
    go_wp2_with (first | (go_at_call 99; refine (unhide HE).mono ?_; rintro e x ⟨rfl, rfl⟩) | (go_at_call 14; refine (unhide HF).mono ?_; rintro e x ⟨rfl, rfl⟩) | (have _x := unhide Q5; clear _x; at_builtin; go_must (refine wpList_part_n (base := base) (p := q2) (by rfl) (.tmp 45) _ (by rfl) (by rfl) (none) (p.xs.drop 0) (0) (0) ((unhide HD).2.1) (by rfl) (unhide Q5) (by have := unhide HSZ; have := (unhide Q7).size; omega) ((unhide HREST) _) (by have := (unhide HD).2.2; rw [unhide Q6]; simp only [List.nil_append, List.length_append, List.length_singleton]; omega) ?_); intro q3 w4 g1 g2 g3 g4; obtain ⟨k1, k2, k3⟩ := (unhide HH).fresh (unhide HFF) (unhide Q7) (unhide Q8) g1 (L2 := p.xs.take 0 ++ id :: p.xs.drop 0) (by rw [g2, unhide Q6]; simp) g3 g4; have HK1 := hide k1; clear g1 g2 g3 g4 k1; obtain ⟨qa, qc, qx⟩ := q3; simp only [PartM.val] at HK1 ⊢) | (have _x := unhide Q1; clear _x; at_builtin; go_must (refine wpList_part_n (base := base) (p := q) (by rfl) (.tmp 40) _ (by rfl) (by rfl) (some ⟨w2.heap.size, 0, none⟩) [id] 1 1 rfl (by rfl) ((unhide Q1).below (below_new _ _)) (by have := unhide HSZ; have := (unhide Q3).size; simp; omega) (one_num w2 id) (by have := (unhide HD).2.2; rw [unhide Q2]; simp <;> omega) ?_); intro q2 w3 g1 g2 g3 g4; obtain ⟨fb, fo⟩ := second_part (unhide Q3) (unhide Q4) g3 g4; have hc3 := (unhide HLAT) w3 fb; have Q5 := hide g1; have Q6 := hide (g2.trans (by rw [unhide Q2])); have Q7 := hide fb; have Q8 := hide fo; clear g1 g2 g3 g4 fb fo) | (at_builtin; go_must (refine wpList_part_n (base := base) (p := ⟨some ⟨w.heap.size, 0, none⟩, 0, []⟩) (by rfl) (.tmp 32) _ (by rfl) (by rfl) (none) (p.xs.take 0) 0 0 ((unhide HD).1) (by rfl) (PartAt.nil _ _ _) (by have := unhide HSZ; simp; omega) ((unhide HTAKE) _ (below_new _ _)) (by have := (unhide HD).2.2; simp only [List.length_nil]; omega) ?_); intro q w2 g1 g2 g3 g4; obtain ⟨fb, fo⟩ := first_part (q := q) g3 (by simpa [PartM.own] using g4); have Q1 := hide g1; have Q2 := hide g2; have Q3 := hide fb; have Q4 := hide fo; clear g1 g2 g3 g4 fb fo))
    go_ret
    exact ⟨rfl, unhide HK1⟩
  | some ad =>
    have hrest : ∀ w2, Below w.heap.size w w2 → (p.cap = k → NumsIn w2 (some ad) (p.xs.drop k)) ∧ (p.cap ≠ k → NumsIn w2 (some (ad.add k)) (p.xs.drop k)) := fun w2 hb => by
      have := (h.part.below (w' := w2) hb).rest k hk ha
      exact ⟨fun e => by rw [if_pos e] at this; exact this, fun e => by rw [if_neg e] at this; exact this⟩
    have HREST := hide hrest
    have hnl : ∃ n, p.xs.length = n := ⟨_, rfl⟩
    obtain ⟨n, hnn⟩ := hnl
    have HLAT : Hid (∀ w2, Below w.heap.size w w2 → w2.cell? ⟨bW, 1, none⟩ = some (.slice (some ad) n p.cap)) := hide (fun w2 hb => by
      have := ((unhide HH).later hb).1
      unfold PartM.val at this
      rw [ha, hnn] at this
      exact this)
    have c1' := (unhide HLAT) w (Below.refl _ _)
    rw [ha] at HTAKE
    rw [hnn] at HD hkn hkn' hnc hn32
    clear c1 cf h hF hl hcap hmost hE hFd ha hk hrest hnn
    generalize p.cap = pc at *
    by_cases hck : pc = k
    · subst hck
      go_enter Try.func44, Try.ntmps44
      go_wp2_with (first | (go_at_call 99; refine (unhide HE).mono ?_; rintro e x ⟨rfl, rfl⟩) | (go_at_call 14; refine (unhide HF).mono ?_; rintro e x ⟨rfl, rfl⟩) | (have _x := unhide Q5; clear _x; at_builtin; go_must (refine wpList_part_n (base := base) (p := q2) (by rfl) (.tmp 45) _ (by rfl) (by rfl) (some ad) (p.xs.drop pc) (n - pc) (0) ((unhide HD).2.1) (by rfl) (unhide Q5) (by have := unhide HSZ; have := (unhide Q7).size; omega) (((unhide HREST) _ (unhide Q7)).1 (by simp)) (by have := (unhide HD).2.2; rw [unhide Q6]; simp only [List.nil_append, List.length_append, List.length_singleton]; omega) ?_); intro q3 w4 g1 g2 g3 g4; obtain ⟨k1, k2, k3⟩ := (unhide HH).fresh (unhide HFF) (unhide Q7) (unhide Q8) g1 (L2 := p.xs.take pc ++ id :: p.xs.drop pc) (by rw [g2, unhide Q6]; simp) g3 g4; have HK1 := hide k1; clear g1 g2 g3 g4 k1; obtain ⟨qa, qc, qx⟩ := q3; simp only [PartM.val] at HK1 ⊢) | (have _x := unhide Q1; clear _x; at_builtin; go_must (refine wpList_part_n (base := base) (p := q) (by rfl) (.tmp 40) _ (by rfl) (by rfl) (some ⟨w2.heap.size, 0, none⟩) [id] 1 1 rfl (by rfl) ((unhide Q1).below (below_new _ _)) (by have := unhide HSZ; have := (unhide Q3).size; simp; omega) (one_num w2 id) (by have := (unhide HD).2.2; rw [unhide Q2]; simp <;> omega) ?_); intro q2 w3 g1 g2 g3 g4; obtain ⟨fb, fo⟩ := second_part (unhide Q3) (unhide Q4) g3 g4; have hc3 := (unhide HLAT) w3 fb; have Q5 := hide g1; have Q6 := hide (g2.trans (by rw [unhide Q2])); have Q7 := hide fb; have Q8 := hide fo; clear g1 g2 g3 g4 fb fo) | (at_builtin; go_must (refine wpList_part_n (base := base) (p := ⟨some ⟨w.heap.size, 0, none⟩, 0, []⟩) (by rfl) (.tmp 32) _ (by rfl) (by rfl) (some ad) (p.xs.take pc) pc pc ((unhide HD).1) (by rfl) (PartAt.nil _ _ _) (by have := unhide HSZ; simp; omega) ((unhide HTAKE) _ (below_new _ _)) (by have := (unhide HD).2.2; simp only [List.length_nil]; omega) ?_); intro q w2 g1 g2 g3 g4; obtain ⟨fb, fo⟩ := first_part (q := q) g3 (by simpa [PartM.own] using g4); have Q1 := hide g1; have Q2 := hide g2; have Q3 := hide fb; have Q4 := hide fo; clear g1 g2 g3 g4 fb fo))
      go_ret
      exact ⟨rfl, unhide HK1⟩
    · skip
      go_enter Try.func44, Try.ntmps44
      go_wp2_with (first | (go_at_call 99; refine (unhide HE).mono ?_; rintro e x ⟨rfl, rfl⟩) | (go_at_call 14; refine (unhide HF).mono ?_; rintro e x ⟨rfl, rfl⟩) | (have _x := unhide Q5; clear _x; at_builtin; go_must (refine wpList_part_n (base := base) (p := q2) (by rfl) (.tmp 45) _ (by rfl) (by rfl) (some (ad.add k)) (p.xs.drop k) (n - k) (pc - k) ((unhide HD).2.1) (by rfl) (unhide Q5) (by have := unhide HSZ; have := (unhide Q7).size; omega) (((unhide HREST) _ (unhide Q7)).2 hck) (by have := (unhide HD).2.2; rw [unhide Q6]; simp only [List.nil_append, List.length_append, List.length_singleton]; omega) ?_); intro q3 w4 g1 g2 g3 g4; obtain ⟨k1, k2, k3⟩ := (unhide HH).fresh (unhide HFF) (unhide Q7) (unhide Q8) g1 (L2 := p.xs.take k ++ id :: p.xs.drop k) (by rw [g2, unhide Q6]; simp) g3 g4; have HK1 := hide k1; clear g1 g2 g3 g4 k1; obtain ⟨qa, qc, qx⟩ := q3; simp only [PartM.val] at HK1 ⊢) | (have _x := unhide Q1; clear _x; at_builtin; go_must (refine wpList_part_n (base := base) (p := q) (by rfl) (.tmp 40) _ (by rfl) (by rfl) (some ⟨w2.heap.size, 0, none⟩) [id] 1 1 rfl (by rfl) ((unhide Q1).below (below_new _ _)) (by have := unhide HSZ; have := (unhide Q3).size; simp; omega) (one_num w2 id) (by have := (unhide HD).2.2; rw [unhide Q2]; simp <;> omega) ?_); intro q2 w3 g1 g2 g3 g4; obtain ⟨fb, fo⟩ := second_part (unhide Q3) (unhide Q4) g3 g4; have hc3 := (unhide HLAT) w3 fb; have Q5 := hide g1; have Q6 := hide (g2.trans (by rw [unhide Q2])); have Q7 := hide fb; have Q8 := hide fo; clear g1 g2 g3 g4 fb fo) | (at_builtin; go_must (refine wpList_part_n (base := base) (p := ⟨some ⟨w.heap.size, 0, none⟩, 0, []⟩) (by rfl) (.tmp 32) _ (by rfl) (by rfl) (some ad) (p.xs.take k) k pc ((unhide HD).1) (by rfl) (PartAt.nil _ _ _) (by have := unhide HSZ; simp; omega) ((unhide HTAKE) _ (below_new _ _)) (by have := (unhide HD).2.2; simp only [List.length_nil]; omega) ?_); intro q w2 g1 g2 g3 g4; obtain ⟨fb, fo⟩ := first_part (q := q) g3 (by simpa [PartM.own] using g4); have Q1 := hide g1; have Q2 := hide g2; have Q3 := hide fb; have Q4 := hide fo; clear g1 g2 g3 g4 fb fo))
      go_ret
      exact ⟨rfl, unhide HK1⟩
end
end Go.Proofs.Ytmllhebmaldgfaa
/-
  The document's stack: Put and Swap, whole.
-/
namespace Go.Proofs.Ytmllhebmaldgfaa
open Go.RowKit

section
variable {w : World} {base bW bR : Nat} {ks : List Key} {L : List Int} {F FA : Nat → Prop} {p : PartM}

set_option maxHeartbeats 2000000 in
theorem rPut_any (ha : RfK w base bR ks FA) (hs : RstS w base bW bR L F) (hg : Good ks L) (i id : Int) : Calls Try.prog 44 #[.pointer (some ⟨bW, 0, none⟩), .int .i64 i, .int .i64 id] w fun e w' =>
    e = .returned (.int .i64 (putE ks L i id)) ∧ UpdW F w w' base bW bR (putL ks L i id) := by
  have hl := (LiveR.mk' ha hs).few hg
  have hE := rElement_any ha id
  have hFd := rFind_any hs hl hg.nodup id
  have HS := hide hs
  have hs' := hs
  obtain ⟨p, h, rfl, hF⟩ := hs
  obtain ⟨c0, c1, cf⟩ := h.cells
  unfold PartM.val at c1
  unfold putL putE enterE
  cases he : (elOf ks id).isSome with
  | false =>
    rw [he] at hE
    have HE := hide hE
    simp only [Bool.false_eq_true, if_false]
    rw [if_neg (by decide), if_neg (by decide)]
    clear ha hg h hF hl hE hFd hs' cf
    go_enter Try.func44, Try.ntmps44
    go_wp2_with (go_at_call 99; refine (unhide HE).mono ?_; rintro e w1 ⟨rfl, rfl⟩)
    go_ret
    exact ⟨rfl, (unhide HS).upd (Below.refl _ _)⟩
  | true =>
    rw [he] at hE
    simp only [if_true]
    by_cases hm : id ∈ p.xs
    · obtain ⟨j, hj, _⟩ := findM_in hm
      rw [hj] at hFd
      have HE := hide hE
      have HF := hide hFd
      rw [if_pos hm, if_neg (by decide), if_neg (by decide)]
      have hz : (0 : Int) ≤ (j : Int) := by omega
      clear ha hg h hF hl hE hFd hs' cf he hm hj
      go_enter Try.func44, Try.ntmps44
      go_wp2_with (first | (go_at_call 99; refine (unhide HE).mono ?_; rintro e w1 ⟨rfl, rfl⟩) | (go_at_call 14; refine (unhide HF).mono ?_; rintro e w1 ⟨rfl, rfl⟩))
      go_ret
      exact ⟨rfl, (unhide HS).upd (Below.refl _ _)⟩
    · rw [findM_out hm] at hFd
      rw [if_neg hm, if_pos rfl]
      have HE := hide hE
      have HF := hide hFd
      by_cases hi : i < 0
      · rw [if_pos (.inl hi), if_neg (by decide)]
        clear ha hg h hF hl hE hFd hs' cf he hm
        go_enter Try.func44, Try.ntmps44
        go_wp2_with (first | (go_at_call 99; refine (unhide HE).mono ?_; rintro e w1 ⟨rfl, rfl⟩) | (go_at_call 14; refine (unhide HF).mono ?_; rintro e w1 ⟨rfl, rfl⟩))
        go_ret
        exact ⟨rfl, (unhide HS).upd (Below.refl _ _)⟩
      · by_cases hj : (p.xs.length : Int) < i
        · rw [if_pos (.inr hj), if_neg (by decide)]
          generalize p.xs.length = n at *
          clear ha hg h hF hl hE hFd hs' cf he hm
          go_enter Try.func44, Try.ntmps44
          go_wp2_with (first | (go_at_call 99; refine (unhide HE).mono ?_; rintro e w1 ⟨rfl, rfl⟩) | (go_at_call 14; refine (unhide HF).mono ?_; rintro e w1 ⟨rfl, rfl⟩))
          go_ret
          exact ⟨rfl, (unhide HS).upd (Below.refl _ _)⟩
        · rw [if_neg (by omega), if_pos rfl]
          obtain ⟨k, rfl⟩ : ∃ k : Nat, i = (k : Int) := ⟨i.toNat, by omega⟩
          rw [Int.toNat_natCast]
          exact rPut_in hs' hl k (by omega) id hE hFd

theorem RstAt.put {q : PartM} {g off : Nat} (h : RstAt w base bW bR q) (ha : q.a = some ⟨g, off, none⟩) (i : Nat) (hi : i < q.xs.length) (x : Int) : RstAt (w.setCell ⟨g, off + i, none⟩ (.int .i64 x)) base bW bR ⟨q.a, q.cap, q.xs.set i x⟩ ∧ q.own = some g ∧ g ≠ bW := by
  have own : q.own = some g := by
    unfold PartM.own
    rw [if_neg (by have := h.part.len; omega), ha]
    rfl
  have hne : g ≠ bW := fun e => h.ne (by rw [own, e])
  refine ⟨⟨?_, h.part.put ha i hi x, h.lo⟩, own, hne⟩
  rw [setCell_far _ _ _ (fun e => hne e.symm), h.box]
  unfold PartM.val
  simp
/-- A copy of the list laid into the stack, and one number of it written. -/
theorem RstAt.swapped (h : RstAt w base bW bR p) (hF : ∀ k, F k ↔ footW bW p k) {w2 : World} {q : PartM} (hb : Below w.heap.size w w2) (hq : ∀ k, q.own = some k → w.heap.size ≤ k) (h1 : PartAt w2 base q) (h2 : q.xs = p.xs) (j : Nat) (hj : j < p.xs.length) (x : Int) :
    ∃ g off, q.a = some ⟨g, off, none⟩ ∧ g ≠ bW ∧ (∃ v, w2.cell? ⟨g, off + j, none⟩ = some v) ∧ w2.frozen? ⟨g, off + j, none⟩ = false ∧ w2.cell? ⟨bW, 1, none⟩ = some p.val ∧ w2.frozen? ⟨bW, 1, none⟩ = false ∧
      UpdW F w ((w2.setCell ⟨bW, 1, none⟩ q.val).setCell ⟨g, off + j, none⟩ (.int .i64 x)) base bW bR (p.xs.set j x) := by
  have M : Mod (fun k => p.own = some k) w w2 := Mod.of_below hb
  obtain ⟨R1, R2⟩ := h.set M h1
  have hjq : j < q.xs.length := by rw [h2]; exact hj
  obtain ⟨g, off, cur, ha, hbb, hg, hs, hc⟩ := h1.cellsAll (by have := h1.len; omega)
  obtain ⟨P1, P2, P3⟩ := R1.put ha j hjq x
  refine ⟨g, off, ha, P3, ⟨_, by rw [cell_row _ g (off + j) _ _ _ hg]; exact hc j _ (List.getElem?_eq_getElem hjq)⟩, by simp [World.frozen?, hg], (h.cellM M).1, (h.cellM M).2, ?_⟩
  have hgn := hq g P2
  refine ⟨footW bW ⟨q.a, q.cap, q.xs.set j x⟩, ⟨_, P1, by simp only; rw [h2], fun _ => Iff.rfl⟩, ?_, ?_⟩
  · exact (R2.mono (fun k _ hk => (hF k).2 hk)).then (Mod.setCell (F := fun k => k = g) _ ⟨g, off + j, none⟩ _ rfl) (fun k hk => .inr (by omega))
  · rintro k (rfl | hk)
    · exact .inl ((hF _).2 (.inl rfl))
    · have : q.own = some k := hk
      exact .inr (hq k this)

set_option maxHeartbeats 4000000 in
theorem rSwap_any (ha : RfK w base bR ks FA) (hs : RstS w base bW bR L F) (hg : Good ks L) (old id : Int) : Calls Try.prog 46 #[.pointer (some ⟨bW, 0, none⟩), .int .i64 old, .int .i64 id] w fun e w' =>
    e = .returned (.int .i64 (swapE ks L old id)) ∧ UpdW F w w' base bW bR (swapL ks L old id) := by
  have hl := (LiveR.mk' ha hs).few hg
  have hE := rElement_any ha id
  have hFi := rFind_any hs hl hg.nodup id
  have hFo := rFind_any hs hl hg.nodup old
  have HS := hide hs
  obtain ⟨p, h, rfl, hF⟩ := hs
  obtain ⟨c0, c1, cf⟩ := h.cells
  unfold swapL swapE enterE
  by_cases hm : old ∈ p.xs
  · obtain ⟨j, hj, hj2, hj3⟩ := findM_in hm
    have hji : p.xs.idxOf old = j := idxOf_at hg.nodup hj2
    rw [hji]
    rw [hj] at hFo
    have HFO := hide hFo
    have hz : (0 : Int) ≤ (j : Int) := by omega
    have hz' : ¬ (j : Int) < 0 := by omega
    rw [if_pos hm]
    cases he : (elOf ks id).isSome with
    | false =>
      rw [he] at hE
      have HE := hide hE
      simp only [Bool.false_eq_true, if_false]
      rw [if_neg (by decide)]
      clear ha hg h hF hl hE hFi hFo cf he hm hj hj2 hj3 hji
      go_enter Try.func46, Try.ntmps46
      go_wp2_with (first | (go_at_call 99; refine (unhide HE).mono ?_; rintro e w1 ⟨rfl, rfl⟩) | (go_at_call 14; refine (unhide HFO).mono ?_; rintro e w1 ⟨rfl, rfl⟩))
      go_ret
      exact ⟨rfl, (unhide HS).upd (Below.refl _ _)⟩
    | true =>
      rw [he] at hE
      have HE := hide hE
      simp only [if_true]
      by_cases hmi : id ∈ p.xs
      · obtain ⟨i, hi, _⟩ := findM_in hmi
        rw [hi] at hFi
        have HFI := hide hFi
        rw [if_pos hmi, if_neg (by decide)]
        have hiz : (0 : Int) ≤ (i : Int) := by omega
        clear ha hg h hF hl hE hFi hFo cf he hm hj hj2 hj3 hji hmi hi
        go_enter Try.func46, Try.ntmps46
        go_wp2_with (first | (go_at_call 99; refine (unhide HE).mono ?_; rintro e w1 ⟨rfl, rfl⟩; have MK := hide trivial) | (have _x := unhide MK; clear _x; go_at_call 14; refine (unhide HFI).mono ?_; rintro e w1 ⟨rfl, rfl⟩) | (go_at_call 14; refine (unhide HFO).mono ?_; rintro e w1 ⟨rfl, rfl⟩))
        go_ret
        exact ⟨rfl, (unhide HS).upd (Below.refl _ _)⟩
      · rw [findM_out hmi] at hFi
        have HFI := hide hFi
        rw [if_neg hmi, if_pos rfl]
        obtain ⟨g0, off0, hpa, hcl⟩ := h.part.nums j _ hj2
        clear hcl
        have hcap := h.part.len
        have hmost := h.part.most
        have HSW := hide (fun (w2 : World) (q : PartM) hb hq h1 h2 => h.swapped hF (w2 := w2) (q := q) hb hq h1 h2 j hj3 id)
        have HNUM : Hid (∀ w2, Below w.heap.size w w2 → NumsIn w2 p.a p.xs) := hide (fun w2 hb => (h.part.below (w' := w2) hb).nums)
        have HSZ : Hid (base ≤ w.heap.size) := hide (by have := h.lo; have := h.lt; omega)
        have hltW := h.lt
        have hn32 : (p.xs.length : Int) ≤ 32768 := by omega
        have hjn : (j : Int) < (p.xs.length : Int) := by omega
        have HL := hide hl
        have hc1 := c1
        unfold PartM.val at hc1
        rw [hpa] at HNUM hc1
        clear hpa
        clear ha hg h hF hl hE hFi hFo cf he hm hj hj2 hj3 hji hmi hcap hmost c1
        go_enter Try.func46, Try.ntmps46
        go_wp2_with (first | (go_at_call 99; refine (unhide HE).mono ?_; rintro e w1 ⟨rfl, rfl⟩; have MK := hide trivial) | (have _x := unhide MK; clear _x; go_at_call 14; refine (unhide HFI).mono ?_; rintro e w1 ⟨rfl, rfl⟩) | (go_at_call 14; refine (unhide HFO).mono ?_; rintro e w1 ⟨rfl, rfl⟩) | (at_builtin; go_must (refine wpList_part_n (base := base) (p := ⟨some ⟨w.heap.size, 0, none⟩, 0, []⟩) (by rfl) _ _ (by rfl) (by rfl) (some ⟨g0, off0, none⟩) p.xs p.xs.length p.cap rfl (by rfl) (PartAt.nil _ _ _) (by have := unhide HSZ; simp; omega) ((unhide HNUM) _ (below_new _ _)) (by have := unhide HL; simp only [List.length_nil]; omega) ?_); intro q w2 g1 g2 g3 g4; obtain ⟨fb, fo⟩ := first_part (q := q) g3 (by simpa [PartM.own] using g4); obtain ⟨gq, oq, hqa, hqne, ⟨vq, hqc⟩, hqf, hqb, hqbf, hqu⟩ := (unhide HSW) w2 q fb fo g1 g2; have hqlen : q.xs.length = p.xs.length := (by rw [g2]; rfl); have HU := hide hqu; clear g1 g2 g3 g4 fb fo hqu; obtain ⟨qa, qc, qx⟩ := q; simp only at hqa hqlen; subst hqa; simp only [PartM.val, hqlen] at HU ⊢))
        go_ret
        exact ⟨rfl, unhide HU⟩
  · rw [findM_out hm] at hFo
    have HFO := hide hFo
    have HE := hide hE
    rw [if_neg hm, if_neg (by decide)]
    cases he : (elOf ks id).isSome with
    | false =>
      rw [he] at HE
      clear ha hg h hF hl hE hFi hFo cf he hm
      go_enter Try.func46, Try.ntmps46
      go_wp2_with (first | (go_at_call 99; refine (unhide HE).mono ?_; rintro e w1 ⟨rfl, rfl⟩) | (go_at_call 14; refine (unhide HFO).mono ?_; rintro e w1 ⟨rfl, rfl⟩))
      go_ret
      exact ⟨rfl, (unhide HS).upd (Below.refl _ _)⟩
    | true =>
      rw [he] at HE
      clear ha hg h hF hl hE hFi hFo cf he hm
      go_enter Try.func46, Try.ntmps46
      go_wp2_with (first | (go_at_call 99; refine (unhide HE).mono ?_; rintro e w1 ⟨rfl, rfl⟩) | (go_at_call 14; refine (unhide HFO).mono ?_; rintro e w1 ⟨rfl, rfl⟩))
      go_ret
      exact ⟨rfl, (unhide HS).upd (Below.refl _ _)⟩
end
end Go.Proofs.Ytmllhebmaldgfaa
