/-
  A stack of package stack in memory, beside its arena; its calls that only look at the numbers.
-/
import Derived.Test.YtmllhebmaldgfaaPd
import Derived.Test.YtmllhebmaldgfaaKp
namespace Go.Proofs.Ytmllhebmaldgfaa
open Go.RowKit

/-- A stack at block bK of the arena at bA: its pile at bP, its memo at bM. -/
structure StkAt (w : World) (base bK bP bM bA : Nat) (p : PartM) (v : Value) (ms : List (Option Cal)) : Prop where
  box : w.heap[bK]? = some (.cells #[.pointer (some ⟨bA, 0, none⟩), .pointer (some ⟨bP, 0, none⟩), .pointer (some ⟨bM, 0, none⟩)] 83 (0, 0))
  pile : PileAt w base bP p
  memo : KnM w base bM v ms
  apart : ∀ k, footP bP p k → ¬ footM bM v k
  lo : base ≤ bK

def footS (bK bP bM : Nat) (p : PartM) (v : Value) (k : Nat) : Prop := k = bK ∨ footP bP p k ∨ footM bM v k

section
variable {w w' : World} {base bK bP bM bA : Nat} {p : PartM} {v : Value} {ms : List (Option Cal)} {F G : Nat → Prop}
theorem StkAt.cells (h : StkAt w base bK bP bM bA p v ms) : w.cell? ⟨bK, 0, none⟩ = some (.pointer (some ⟨bA, 0, none⟩)) ∧ w.cell? ⟨bK, 1, none⟩ = some (.pointer (some ⟨bP, 0, none⟩)) ∧ w.cell? ⟨bK, 2, none⟩ = some (.pointer (some ⟨bM, 0, none⟩)) := by
  have hb := h.box
  exact ⟨by simp [World.cell?, hb], by simp [World.cell?, hb], by simp [World.cell?, hb]⟩
theorem StkAt.lt (h : StkAt w base bK bP bM bA p v ms) : bK < w.heap.size := lt_of_block h.box
theorem StkAt.ne (h : StkAt w base bK bP bM bA p v ms) : ¬ footP bP p bK := by
  rintro (e | e)
  · subst e
    have := h.pile.box
    rw [h.box] at this
    cases this
  · obtain ⟨_, _, cu, hc⟩ := h.pile.part.own_lt e
    rw [h.box] at hc
    cases hc
theorem StkAt.neM (h : StkAt w base bK bP bM bA p v ms) : ¬ footM bM v bK := by
  rintro (e | e)
  · subst e
    have := h.memo.box
    rw [h.box] at this
    cases this
  · obtain ⟨cu, hc⟩ := ownsRow_block h.memo.own e
    rw [h.box] at hc
    cases hc
theorem StkAt.foot_lt (h : StkAt w base bK bP bM bA p v ms) {k : Nat} (hk : footS bK bP bM p v k) : base ≤ k ∧ k < w.heap.size := by
  rcases hk with rfl | hk | hk
  · exact ⟨h.lo, h.lt⟩
  · exact h.pile.foot_lt hk
  · exact h.memo.lt hk
theorem StkAt.mod (h : StkAt w base bK bP bM bA p v ms) (hm : Mod G w w') (hG : ∀ k, footS bK bP bM p v k → ¬ G k) : StkAt w' base bK bP bM bA p v ms :=
  ⟨(hm.block bK h.lt (hG bK (.inl rfl))).trans h.box, h.pile.mod hm (fun k hk => hG k (.inr (.inl hk))), h.memo.mod hm (fun k hk => hG k (.inr (.inr hk))), h.apart, h.lo⟩
theorem StkAt.below (h : StkAt w base bK bP bM bA p v ms) (hb : Below w.heap.size w w') : StkAt w' base bK bP bM bA p v ms := h.mod (Mod.of_below (F := fun _ => False) hb) (fun _ _ e => e)
end

/-- What the memo holds is so. -/
def Coh (el : Int → Option Cal) (ms : List (Option Cal)) : Prop := ∀ (i : Nat) c, ms[i]? = some (some c) → el i = some c
theorem Coh.nil (el : Int → Option Cal) : Coh el [] := fun i c h => by simp at h
theorem Coh.grow {el : Int → Option Cal} {ms : List (Option Cal)} (h : Coh el ms) : Coh el (ms ++ [none]) := fun i c hc => by
  by_cases hi : i < ms.length
  · rw [List.getElem?_append_left hi] at hc; exact h i c hc
  · rw [List.getElem?_append_right (by omega)] at hc
    have := List.mem_of_getElem? hc
    simp at this
theorem Coh.poke {el : Int → Option Cal} {ms : List (Option Cal)} (h : Coh el ms) {i : Nat} {c : Cal} (he : el i = some c) : Coh el (ms.set i (some c)) := fun j d hd => by
  by_cases hj : j = i
  · subst hj
    rw [List.getElem?_set_self'] at hd
    cases hm : ms[j]? with
    | none => rw [hm] at hd; simp at hd
    | some y => rw [hm] at hd; simp at hd; subst hd; exact he
  · rw [List.getElem?_set_ne (fun e => hj e.symm)] at hd
    exact h j d hd
theorem Coh.mono {el el2 : Int → Option Cal} {ms : List (Option Cal)} (h : Coh el ms) (hm : ∀ i c, el i = some c → el2 i = some c) : Coh el2 ms := fun i c hc => hm _ _ (h i c hc)

/-- A stack at bK of the arena at bA, with these numbers, in the blocks F; what its memo holds is as el tells. -/
def StkS (w : World) (base bK bA : Nat) (el : Int → Option Cal) (L : List Int) (F : Nat → Prop) : Prop := ∃ bP bM p v ms, StkAt w base bK bP bM bA p v ms ∧ Coh el ms ∧ p.xs = L ∧ ∀ k, F k ↔ footS bK bP bM p v k
def UpdS (F : Nat → Prop) (w w' : World) (base bK bA : Nat) (el : Int → Option Cal) (L : List Int) : Prop := ∃ F', StkS w' base bK bA el L F' ∧ Mod F w w' ∧ ∀ k, F' k → F k ∨ w.heap.size ≤ k

section
variable {w w' w1 : World} {base bK bP bM bA : Nat} {el : Int → Option Cal} {L : List Int} {p : PartM} {v : Value} {ms : List (Option Cal)} {F G : Nat → Prop}
theorem StkS.lt (h : StkS w base bK bA el L F) {k : Nat} (hk : F k) : base ≤ k ∧ k < w.heap.size := by
  obtain ⟨bP, bM, p, v, ms, h, _, _, hF⟩ := h
  exact h.foot_lt ((hF k).1 hk)
theorem StkS.mod (h : StkS w base bK bA el L F) (hm : Mod G w w') (hG : ∀ k, F k → ¬ G k) : StkS w' base bK bA el L F := by
  obtain ⟨bP, bM, p, v, ms, h, hc, e, hF⟩ := h
  exact ⟨bP, bM, p, v, ms, h.mod hm (fun k hk => hG k ((hF k).2 hk)), hc, e, hF⟩
theorem StkS.below (h : StkS w base bK bA el L F) (hb : Below w.heap.size w w') : StkS w' base bK bA el L F := h.mod (Mod.of_below (F := fun _ => False) hb) (fun _ _ e => e)
theorem StkS.upd (h : StkS w base bK bA el L F) (hb : Below w.heap.size w w') : UpdS F w w' base bK bA el L := ⟨F, h.below hb, Mod.of_below hb, fun _ hk => .inl hk⟩
theorem UpdS.after (hb : Below w.heap.size w w1) (h : UpdS F w1 w' base bK bA el L) : UpdS F w w' base bK bA el L := by
  obtain ⟨F', h1, h2, h3⟩ := h
  exact ⟨F', h1, (Mod.of_below hb).trans h2, fun k hk => (h3 k hk).imp id (fun h => Nat.le_trans hb.size h)⟩
theorem UpdS.then (h : UpdS F w w1 base bK bA el L) (hb : Below w1.heap.size w1 w') : UpdS F w w' base bK bA el L := by
  obtain ⟨F', h1, h2, h3⟩ := h
  exact ⟨F', h1.below hb, h2.trans (Mod.of_below hb), h3⟩
theorem UpdS.chain {L2 : List Int} (h : UpdS F w w1 base bK bA el L) (h2 : ∀ F', StkS w1 base bK bA el L F' → UpdS F' w1 w' base bK bA el L2) : UpdS F w w' base bK bA el L2 := by
  obtain ⟨F', h1, hm, hf⟩ := h
  obtain ⟨F2, g1, g2, g3⟩ := h2 F' h1
  refine ⟨F2, g1, hm.then g2 hf, fun k hk => ?_⟩
  rcases g3 k hk with e | e
  · exact hf k e
  · exact .inr (Nat.le_trans hm.size e)
/-- What a method of the pile makes of the stack. -/
theorem StkAt.upd (h : StkAt w base bK bP bM bA p v ms) (hc : Coh el ms) (hF : ∀ k, F k ↔ footS bK bP bM p v k) (hu : UpdP w w' base bP p L) : UpdS F w w' base bK bA el L := by
  obtain ⟨p', h1, h2, h3, h4⟩ := hu
  refine ⟨footS bK bP bM p' v, ⟨bP, bM, p', v, ms, ⟨(h3.block bK h.lt h.ne).trans h.box, h1, h.memo.mod h3 (fun k hk e => h.apart k e hk), fun k hk hk2 => ?_, h.lo⟩, hc, h2, fun _ => Iff.rfl⟩, h3.mono (fun k _ hk => (hF k).2 (.inr (.inl hk))), ?_⟩
  · rcases h4 k hk with e | e
    · exact h.apart k e hk2
    · have := (h.memo.lt hk2).2
      omega
  · rintro k (rfl | hk | hk)
    · exact .inl ((hF _).2 (.inl rfl))
    · exact (h4 k hk).imp (fun e => (hF k).2 (.inr (.inl e))) id
    · exact .inl ((hF k).2 (.inr (.inr hk)))
/-- What becomes of the memo, of the stack. -/
theorem StkAt.updM {v' : Value} {ms' : List (Option Cal)} (h : StkAt w base bK bP bM bA p v ms) (hF : ∀ k, F k ↔ footS bK bP bM p v k) (h1 : KnM w' base bM v' ms') (hc : Coh el ms') (h3 : Mod (footM bM v) w w') (h4 : ∀ k, footM bM v' k → footM bM v k ∨ w.heap.size ≤ k) : UpdS F w w' base bK bA el p.xs := by
  refine ⟨footS bK bP bM p v', ⟨bP, bM, p, v', ms', ⟨(h3.block bK h.lt h.neM).trans h.box, h.pile.mod h3 (fun k hk e => h.apart k hk e), h1, fun k hk hk2 => ?_, h.lo⟩, hc, rfl, fun _ => Iff.rfl⟩, h3.mono (fun k _ hk => (hF k).2 (.inr (.inr hk))), ?_⟩
  · rcases h4 k hk2 with e | e
    · exact h.apart k hk e
    · have := (h.pile.foot_lt hk).2
      omega
  · rintro k (rfl | hk | hk)
    · exact .inl ((hF _).2 (.inl rfl))
    · exact .inl ((hF k).2 (.inr (.inl hk)))
    · exact (h4 k hk).imp (fun e => (hF k).2 (.inr (.inr e))) id
end

def atM (L : List Int) (i : Int) : Int := if 0 ≤ i then (L[i.toNat]?).getD (-1) else -1
theorem atM_in {L : List Int} {i : Nat} {x : Int} (h : L[i]? = some x) : atM L (i : Int) = x := by simp [atM, h]
theorem atM_out {L : List Int} {i : Int} (h : i < 0 ∨ (L.length : Int) ≤ i) : atM L i = -1 := by
  unfold atM
  split
  · rw [List.getElem?_eq_none (by omega)]; rfl
  · rfl
def topM (L : List Int) : Int := atM L ((L.length : Int) - 1)

section
variable {w : World} {base bK bP bM bA : Nat} {el : Int → Option Cal} {L : List Int} {p : PartM} {v : Value} {ms : List (Option Cal)} {F : Nat → Prop}

theorem made_s (h : StkAt w base bK bP bM bA p v ms) : Calls Try.prog 55 #[.pointer (some ⟨bK, 0, none⟩)] w fun e w' => e = .returned (.bool true) ∧ w = w' := by
  obtain ⟨h0, h1, h2⟩ := h.cells
  clear h
  go_enter Try.func55, Try.ntmps55
  go_wp2
  go_ret
  exact ⟨rfl, rfl⟩

theorem slen_any (h : StkS w base bK bA el L F) : Calls Try.prog 22 #[.pointer (some ⟨bK, 0, none⟩)] w fun e w' => e = .returned (.int .i64 L.length) ∧ w = w' := by
  obtain ⟨bP, bM, p, v, ms, h, _, rfl, _⟩ := h
  have HM := hide (made_s h)
  have HS := hide (size_any h.pile)
  obtain ⟨h0, h1, h2⟩ := h.cells
  clear h
  go_enter Try.func22, Try.ntmps22
  go_wp2_with (first | (go_at_call 55; refine (unhide HM).mono ?_; rintro e w' ⟨rfl, rfl⟩) | (go_at_call 70; refine (unhide HS).mono ?_; rintro e w' ⟨rfl, rfl⟩))
  go_ret
  exact ⟨rfl, rfl⟩

theorem sat_any (h : StkS w base bK bA el L F) (i : Int) : Calls Try.prog 57 #[.pointer (some ⟨bK, 0, none⟩), .int .i64 i] w fun e w' => e = .returned (.int .i64 (atM L i)) ∧ w = w' := by
  have HL := hide (slen_any h)
  obtain ⟨bP, bM, p, v, ms, h, _, rfl, _⟩ := h
  obtain ⟨h0, h1, h2⟩ := h.cells
  by_cases hi : i < 0
  · rw [atM_out (.inl hi)]
    clear h
    go_enter Try.func57, Try.ntmps57
    go_wp2
    go_ret
    exact ⟨rfl, rfl⟩
  · by_cases hj : (p.xs.length : Int) ≤ i
    · rw [atM_out (.inr hj)]
      clear h
      generalize p.xs.length = n at *
      go_enter Try.func57, Try.ntmps57
      go_wp2_with (go_at_call 22; refine (unhide HL).mono ?_; rintro e w' ⟨rfl, rfl⟩)
      go_ret
      exact ⟨rfl, rfl⟩
    · obtain ⟨k, rfl⟩ : ∃ k : Nat, i = (k : Int) := ⟨i.toNat, by omega⟩
      obtain ⟨x, hx⟩ : ∃ x, p.xs[k]? = some x := ⟨_, List.getElem?_eq_getElem (by omega)⟩
      rw [atM_in hx]
      have HA := hide (at_any h.pile k x hx)
      clear h hx
      generalize p.xs.length = n at *
      go_enter Try.func57, Try.ntmps57
      go_wp2_with (first | (go_at_call 22; refine (unhide HL).mono ?_; rintro e w' ⟨rfl, rfl⟩) | (go_at_call 112; refine (unhide HA).mono ?_; rintro e w' ⟨rfl, rfl⟩))
      go_ret
      exact ⟨rfl, rfl⟩

theorem stop_any (h : StkS w base bK bA el L F) (hl : L.length ≤ 100000) : Calls Try.prog 24 #[.pointer (some ⟨bK, 0, none⟩)] w fun e w' => e = .returned (.int .i64 (topM L)) ∧ w = w' := by
  have HL := hide (slen_any h)
  have HA := hide (sat_any h ((L.length : Int) - 1))
  have hz : (L.length : Int) ≤ 100000 := by omega
  unfold topM
  generalize atM L ((L.length : Int) - 1) = r at *
  generalize L.length = n at *
  clear h hl
  go_enter Try.func24, Try.ntmps24
  go_wp2_with (first | (go_at_call 22; refine (unhide HL).mono ?_; rintro e w' ⟨rfl, rfl⟩) | (go_at_call 57; refine (unhide HA).mono ?_; rintro e w' ⟨rfl, rfl⟩))
  go_ret
  exact ⟨rfl, rfl⟩

def findM (L : List Int) (x : Int) : Int := if x ∈ L then (L.idxOf x : Int) else -1
theorem idxOf_at {L : List Int} (hn : L.Nodup) {j : Nat} {x : Int} (h : L[j]? = some x) : L.idxOf x = j := by
  induction L generalizing j with
  | nil => simp at h
  | cons y L ih =>
    cases j with
    | zero => simp at h; subst h; simp
    | succ j =>
      have h' : L[j]? = some x := by simpa using h
      have hm : x ∈ L := List.mem_of_getElem? h'
      have hne : y ≠ x := by
        intro e; subst e
        exact (List.nodup_cons.1 hn).1 hm
      rw [List.idxOf_cons]
      have : (y == x) = false := by simpa using hne
      rw [this]
      simp only [cond_false]
      rw [ih (List.nodup_cons.1 hn).2 h']
theorem FindR.eq {x r : Int} (h : FindR L x r) (hn : L.Nodup) : r = findM L x := by
  rcases h with ⟨rfl, h⟩ | ⟨j, rfl, h⟩
  · rw [findM, if_neg h]
  · rw [findM, if_pos (List.mem_of_getElem? h), idxOf_at hn h]
theorem findM_in {x : Int} (h : x ∈ L) : ∃ j : Nat, findM L x = (j : Int) ∧ L[j]? = some x ∧ j < L.length := by
  refine ⟨L.idxOf x, if_pos h, ?_, List.idxOf_lt_length_of_mem h⟩
  rw [List.getElem?_eq_getElem (List.idxOf_lt_length_of_mem h), List.getElem_idxOf]
theorem findM_out {x : Int} (h : x ∉ L) : findM L x = -1 := if_neg h

theorem sfind_any (h : StkS w base bK bA el L F) (hl : L.length ≤ 100000) (hn : L.Nodup) (x : Int) : Calls Try.prog 13 #[.pointer (some ⟨bK, 0, none⟩), .int .i64 x] w fun e w' => e = .returned (.int .i64 (findM L x)) ∧ w = w' := by
  obtain ⟨bP, bM, p, v, ms, h, _, rfl, _⟩ := h
  have HM := hide (made_s h)
  have HS := hide (place_any h.pile hl x)
  have HN : Hid (∀ r, FindR p.xs x r → r = findM p.xs x) := hide (fun r hr => hr.eq hn)
  obtain ⟨h0, h1, h2⟩ := h.cells
  clear h hl hn
  go_enter Try.func13, Try.ntmps13
  go_wp2_with (first | (go_at_call 55; refine (unhide HM).mono ?_; rintro e w' ⟨rfl, rfl⟩) | (go_at_call 56; refine (unhide HS).mono ?_; rintro e w' ⟨⟨r, rfl, hr⟩, rfl⟩; have HR := hide hr; clear hr))
  go_ret
  exact ⟨by rw [(unhide HN) r (unhide HR)]; rfl, rfl⟩
end
end Go.Proofs.Ytmllhebmaldgfaa
