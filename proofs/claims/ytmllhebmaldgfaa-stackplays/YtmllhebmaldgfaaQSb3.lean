/-
  A stack of package stack in memory, beside its arena; its calls that only look at the numbers. A stack of package stack: what its elements are; what is kept of them, looked at. What is kept is told. No element: nothing is told, nothing is kept.
-/
import Derived.Test.YtmllhebmaldgfaaPd
import Derived.Test.YtmllhebmaldgfaaQKp
namespace Go.Proofs.Ytmllhebmaldgfaa
open Go.RowKit

/-- A stack at block bK of the arena at bA: its pile at bP, its memo at bM. -/
structure StkAt (w : World) (base bK bP bM bA : Nat) (p : PartM) (v : Value) (ms : List (Option Cal)) : Prop where
  box : w.heap[bK]? = some (.cells #[.pointer (some ⟨bA, 0, none⟩), .pointer (some ⟨bP, 0, none⟩), .pointer (some ⟨bM, 0, none⟩)] 83 (0, 0))
  pile : PileAt w base bP p
  memo : KnM w base bM v ms
  apart : ∀ k, footP bP p k → ¬ footM bM v k
  lo : base ≤ bK

def footS (bK bP bM : Nat) (p : PartM) (v : Value) (k : Nat) : Prop := k = bK ∨ footP bP p k ∨ footM bM v k

section
variable {w w' : World} {base bK bP bM bA : Nat} {p : PartM} {v : Value} {ms : List (Option Cal)} {F G : Nat → Prop}
theorem StkAt.cells (h : StkAt w base bK bP bM bA p v ms) : w.cell? ⟨bK, 0, none⟩ = some (.pointer (some ⟨bA, 0, none⟩)) ∧ w.cell? ⟨bK, 1, none⟩ = some (.pointer (some ⟨bP, 0, none⟩)) ∧ w.cell? ⟨bK, 2, none⟩ = some (.pointer (some ⟨bM, 0, none⟩)) := by
  have hb := h.box
  exact ⟨by simp [World.cell?, hb], by simp [World.cell?, hb], by simp [World.cell?, hb]⟩
theorem StkAt.lt (h : StkAt w base bK bP bM bA p v ms) : bK < w.heap.size := lt_of_block h.box
theorem StkAt.ne (h : StkAt w base bK bP bM bA p v ms) : ¬ footP bP p bK := by
  rintro (e | e)
  · subst e
    have := h.pile.box
    rw [h.box] at this
    cases this
  · obtain ⟨_, _, cu, hc⟩ := h.pile.part.own_lt e
    rw [h.box] at hc
    cases hc
theorem StkAt.neM (h : StkAt w base bK bP bM bA p v ms) : ¬ footM bM v bK := by
  rintro (e | e)
  · subst e
    have := h.memo.box
    rw [h.box] at this
    cases this
  · obtain ⟨cu, hc⟩ := ownsRow_block h.memo.own e
    rw [h.box] at hc
    cases hc
theorem StkAt.foot_lt (h : StkAt w base bK bP bM bA p v ms) {k : Nat} (hk : footS bK bP bM p v k) : base ≤ k ∧ k < w.heap.size := by
  rcases hk with rfl | hk | hk
  · exact ⟨h.lo, h.lt⟩
  · exact h.pile.foot_lt hk
  · exact h.memo.lt hk
theorem StkAt.mod (h : StkAt w base bK bP bM bA p v ms) (hm : Mod G w w') (hG : ∀ k, footS bK bP bM p v k → ¬ G k) : StkAt w' base bK bP bM bA p v ms :=
  ⟨(hm.block bK h.lt (hG bK (.inl rfl))).trans h.box, h.pile.mod hm (fun k hk => hG k (.inr (.inl hk))), h.memo.mod hm (fun k hk => hG k (.inr (.inr hk))), h.apart, h.lo⟩
theorem StkAt.below (h : StkAt w base bK bP bM bA p v ms) (hb : Below w.heap.size w w') : StkAt w' base bK bP bM bA p v ms := h.mod (Mod.of_below (F := fun _ => False) hb) (fun _ _ e => e)
end

/-- What the memo holds is so. -/
def Coh (el : Int → Option Cal) (ms : List (Option Cal)) : Prop := ∀ (i : Nat) c, ms[i]? = some (some c) → el i = some c
theorem Coh.nil (el : Int → Option Cal) : Coh el [] := fun i c h => by simp at h
theorem Coh.grow {el : Int → Option Cal} {ms : List (Option Cal)} (h : Coh el ms) : Coh el (ms ++ [none]) := fun i c hc => by
  by_cases hi : i < ms.length
  · rw [List.getElem?_append_left hi] at hc; exact h i c hc
  · rw [List.getElem?_append_right (by omega)] at hc
    have := List.mem_of_getElem? hc
    simp at this
theorem Coh.poke {el : Int → Option Cal} {ms : List (Option Cal)} (h : Coh el ms) {i : Nat} {c : Cal} (he : el i = some c) : Coh el (ms.set i (some c)) := fun j d hd => by
  by_cases hj : j = i
  · subst hj
    rw [List.getElem?_set_self'] at hd
    cases hm : ms[j]? with
    | none => rw [hm] at hd; simp at hd
    | some y => rw [hm] at hd; simp at hd; subst hd; exact he
  · rw [List.getElem?_set_ne (fun e => hj e.symm)] at hd
    exact h j d hd
theorem Coh.mono {el el2 : Int → Option Cal} {ms : List (Option Cal)} (h : Coh el ms) (hm : ∀ i c, el i = some c → el2 i = some c) : Coh el2 ms := fun i c hc => hm _ _ (h i c hc)

/-- A stack at bK of the arena at bA, with these numbers, in the blocks F; what its memo holds is as el tells. -/
def StkS (w : World) (base bK bA : Nat) (el : Int → Option Cal) (L : List Int) (F : Nat → Prop) : Prop := ∃ bP bM p v ms, StkAt w base bK bP bM bA p v ms ∧ Coh el ms ∧ p.xs = L ∧ ∀ k, F k ↔ footS bK bP bM p v k
def UpdS (F : Nat → Prop) (w w' : World) (base bK bA : Nat) (el : Int → Option Cal) (L : List Int) : Prop := ∃ F', StkS w' base bK bA el L F' ∧ Mod F w w' ∧ ∀ k, F' k → F k ∨ w.heap.size ≤ k

section
variable {w w' w1 : World} {base bK bP bM bA : Nat} {el : Int → Option Cal} {L : List Int} {p : PartM} {v : Value} {ms : List (Option Cal)} {F G : Nat → Prop}
theorem StkS.lt (h : StkS w base bK bA el L F) {k : Nat} (hk : F k) : base ≤ k ∧ k < w.heap.size := by
  obtain ⟨bP, bM, p, v, ms, h, _, _, hF⟩ := h
  exact h.foot_lt ((hF k).1 hk)
theorem StkS.mod (h : StkS w base bK bA el L F) (hm : Mod G w w') (hG : ∀ k, F k → ¬ G k) : StkS w' base bK bA el L F := by
  obtain ⟨bP, bM, p, v, ms, h, hc, e, hF⟩ := h
  exact ⟨bP, bM, p, v, ms, h.mod hm (fun k hk => hG k ((hF k).2 hk)), hc, e, hF⟩
theorem StkS.below (h : StkS w base bK bA el L F) (hb : Below w.heap.size w w') : StkS w' base bK bA el L F := h.mod (Mod.of_below (F := fun _ => False) hb) (fun _ _ e => e)
theorem StkS.upd (h : StkS w base bK bA el L F) (hb : Below w.heap.size w w') : UpdS F w w' base bK bA el L := ⟨F, h.below hb, Mod.of_below hb, fun _ hk => .inl hk⟩
theorem UpdS.after (hb : Below w.heap.size w w1) (h : UpdS F w1 w' base bK bA el L) : UpdS F w w' base bK bA el L := by
  obtain ⟨F', h1, h2, h3⟩ := h
  exact ⟨F', h1, (Mod.of_below hb).trans h2, fun k hk => (h3 k hk).imp id (fun h => Nat.le_trans hb.size h)⟩
theorem UpdS.then (h : UpdS F w w1 base bK bA el L) (hb : Below w1.heap.size w1 w') : UpdS F w w' base bK bA el L := by
  obtain ⟨F', h1, h2, h3⟩ := h
  exact ⟨F', h1.below hb, h2.trans (Mod.of_below hb), h3⟩
theorem UpdS.chain {L2 : List Int} (h : UpdS F w w1 base bK bA el L) (h2 : ∀ F', StkS w1 base bK bA el L F' → UpdS F' w1 w' base bK bA el L2) : UpdS F w w' base bK bA el L2 := by
  obtain ⟨F', h1, hm, hf⟩ := h
  obtain ⟨F2, g1, g2, g3⟩ := h2 F' h1
  refine ⟨F2, g1, hm.then g2 hf, fun k hk => ?_⟩
  rcases g3 k hk with e | e
  · exact hf k e
  · exact .inr (Nat.le_trans hm.size e)
/-- What a method of the pile makes of the stack. -/
theorem StkAt.upd (h : StkAt w base bK bP bM bA p v ms) (hc : Coh el ms) (hF : ∀ k, F k ↔ footS bK bP bM p v k) (hu : UpdP w w' base bP p L) : UpdS F w w' base bK bA el L := by
  obtain ⟨p', h1, h2, h3, h4⟩ := hu
  refine ⟨footS bK bP bM p' v, ⟨bP, bM, p', v, ms, ⟨(h3.block bK h.lt h.ne).trans h.box, h1, h.memo.mod h3 (fun k hk e => h.apart k e hk), fun k hk hk2 => ?_, h.lo⟩, hc, h2, fun _ => Iff.rfl⟩, h3.mono (fun k _ hk => (hF k).2 (.inr (.inl hk))), ?_⟩
  · rcases h4 k hk with e | e
    · exact h.apart k e hk2
    · have := (h.memo.lt hk2).2
      omega
  · rintro k (rfl | hk | hk)
    · exact .inl ((hF _).2 (.inl rfl))
    · exact (h4 k hk).imp (fun e => (hF k).2 (.inr (.inl e))) id
    · exact .inl ((hF k).2 (.inr (.inr hk)))
/-- What becomes of the memo, of the stack. -/
theorem StkAt.updM {v' : Value} {ms' : List (Option Cal)} (h : StkAt w base bK bP bM bA p v ms) (hF : ∀ k, F k ↔ footS bK bP bM p v k) (h1 : KnM w' base bM v' ms') (hc : Coh el ms') (h3 : Mod (footM bM v) w w') (h4 : ∀ k, footM bM v' k → footM bM v k ∨ w.heap.size ≤ k) : UpdS F w w' base bK bA el p.xs := by
  refine ⟨footS bK bP bM p v', ⟨bP, bM, p, v', ms', ⟨(h3.block bK h.lt h.neM).trans h.box, h.pile.mod h3 (fun k hk e => h.apart k hk e), h1, fun k hk hk2 => ?_, h.lo⟩, hc, rfl, fun _ => Iff.rfl⟩, h3.mono (fun k _ hk => (hF k).2 (.inr (.inr hk))), ?_⟩
  · rcases h4 k hk2 with e | e
    · exact h.apart k hk e
    · have := (h.pile.foot_lt hk).2
      omega
  · rintro k (rfl | hk | hk)
    · exact .inl ((hF _).2 (.inl rfl))
    · exact .inl ((hF k).2 (.inr (.inl hk)))
    · exact (h4 k hk).imp (fun e => (hF k).2 (.inr (.inr e))) id
end

def atM (L : List Int) (i : Int) : Int := if 0 ≤ i then (L[i.toNat]?).getD (-1) else -1
theorem atM_in {L : List Int} {i : Nat} {x : Int} (h : L[i]? = some x) : atM L (i : Int) = x := by simp [atM, h]
theorem atM_out {L : List Int} {i : Int} (h : i < 0 ∨ (L.length : Int) ≤ i) : atM L i = -1 := by
  unfold atM
  split
  · rw [List.getElem?_eq_none (by omega)]; rfl
  · rfl
def topM (L : List Int) : Int := atM L ((L.length : Int) - 1)

section
variable {w : World} {base bK bP bM bA : Nat} {el : Int → Option Cal} {L : List Int} {p : PartM} {v : Value} {ms : List (Option Cal)} {F : Nat → Prop}

theorem made_s (h : StkAt w base bK bP bM bA p v ms) : Calls Try.prog 55 #[.pointer (some ⟨bK, 0, none⟩)] w fun e w' => e = .returned (.bool true) ∧ w = w' := by
  obtain ⟨h0, h1, h2⟩ := h.cells
  clear h
  go_enter Try.func55, Try.ntmps55
  go_wp2
  go_ret
  exact ⟨rfl, rfl⟩

theorem slen_any (h : StkS w base bK bA el L F) : Calls Try.prog 22 #[.pointer (some ⟨bK, 0, none⟩)] w fun e w' => e = .returned (.int .i64 L.length) ∧ w = w' := by
  obtain ⟨bP, bM, p, v, ms, h, _, rfl, _⟩ := h
  have HM := hide (made_s h)
  have HS := hide (size_any h.pile)
  obtain ⟨h0, h1, h2⟩ := h.cells
  clear h
  go_enter Try.func22, Try.ntmps22
  go_wp2_with (first | (go_at_call 55; refine (unhide HM).mono ?_; rintro e w' ⟨rfl, rfl⟩) | (go_at_call 70; refine (unhide HS).mono ?_; rintro e w' ⟨rfl, rfl⟩))
  go_ret
  exact ⟨rfl, rfl⟩

theorem sat_any (h : StkS w base bK bA el L F) (i : Int) : Calls Try.prog 57 #[.pointer (some ⟨bK, 0, none⟩), .int .i64 i] w fun e w' => e = .returned (.int .i64 (atM L i)) ∧ w = w' := by
  have HL := hide (slen_any h)
  obtain ⟨bP, bM, p, v, ms, h, _, rfl, _⟩ := h
  obtain ⟨h0, h1, h2⟩ := h.cells
  by_cases hi : i < 0
  · rw [atM_out (.inl hi)]
    clear h
    go_enter Try.func57, Try.ntmps57
    go_wp2
    go_ret
    exact ⟨rfl, rfl⟩
  · by_cases hj : (p.xs.length : Int) ≤ i
    · rw [atM_out (.inr hj)]
      clear h
      generalize p.xs.length = n at *
      go_enter Try.func57, Try.ntmps57
      go_wp2_with (go_at_call 22; refine (unhide HL).mono ?_; rintro e w' ⟨rfl, rfl⟩)
      go_ret
      exact ⟨rfl, rfl⟩
    · obtain ⟨k, rfl⟩ : ∃ k : Nat, i = (k : Int) := ⟨i.toNat, by omega⟩
      obtain ⟨x, hx⟩ : ∃ x, p.xs[k]? = some x := ⟨_, List.getElem?_eq_getElem (by omega)⟩
      rw [atM_in hx]
      have HA := hide (at_any h.pile k x hx)
      clear h hx
      generalize p.xs.length = n at *
      go_enter Try.func57, Try.ntmps57
      go_wp2_with (first | (go_at_call 22; refine (unhide HL).mono ?_; rintro e w' ⟨rfl, rfl⟩) | (go_at_call 112; refine (unhide HA).mono ?_; rintro e w' ⟨rfl, rfl⟩))
      go_ret
      exact ⟨rfl, rfl⟩

theorem stop_any (h : StkS w base bK bA el L F) (hl : L.length ≤ 100000) : Calls Try.prog 24 #[.pointer (some ⟨bK, 0, none⟩)] w fun e w' => e = .returned (.int .i64 (topM L)) ∧ w = w' := by
  have HL := hide (slen_any h)
  have HA := hide (sat_any h ((L.length : Int) - 1))
  have hz : (L.length : Int) ≤ 100000 := by omega
  unfold topM
  generalize atM L ((L.length : Int) - 1) = r at *
  generalize L.length = n at *
  clear h hl
  go_enter Try.func24, Try.ntmps24
  go_wp2_with (first | (go_at_call 22; refine (unhide HL).mono ?_; rintro e w' ⟨rfl, rfl⟩) | (go_at_call 57; refine (unhide HA).mono ?_; rintro e w' ⟨rfl, rfl⟩))
  go_ret
  exact ⟨rfl, rfl⟩

def findM (L : List Int) (x : Int) : Int := if x ∈ L then (L.idxOf x : Int) else -1
theorem idxOf_at {L : List Int} (hn : L.Nodup) {j : Nat} {x : Int} (h : L[j]? = some x) : L.idxOf x = j := by
  induction L generalizing j with
  | nil => simp at h
  | cons y L ih =>
    cases j with
    | zero => simp at h; subst h; simp
    | succ j =>
      have h' : L[j]? = some x := by simpa using h
      have hm : x ∈ L := List.mem_of_getElem? h'
      have hne : y ≠ x := by
        intro e; subst e
        exact (List.nodup_cons.1 hn).1 hm
      rw [List.idxOf_cons]
      have : (y == x) = false := by simpa using hne
      rw [this]
      simp only [cond_false]
      rw [ih (List.nodup_cons.1 hn).2 h']
theorem FindR.eq {x r : Int} (h : FindR L x r) (hn : L.Nodup) : r = findM L x := by
  rcases h with ⟨rfl, h⟩ | ⟨j, rfl, h⟩
  · rw [findM, if_neg h]
  · rw [findM, if_pos (List.mem_of_getElem? h), idxOf_at hn h]
theorem findM_in {x : Int} (h : x ∈ L) : ∃ j : Nat, findM L x = (j : Int) ∧ L[j]? = some x ∧ j < L.length := by
  refine ⟨L.idxOf x, if_pos h, ?_, List.idxOf_lt_length_of_mem h⟩
  rw [List.getElem?_eq_getElem (List.idxOf_lt_length_of_mem h), List.getElem_idxOf]
theorem findM_out {x : Int} (h : x ∉ L) : findM L x = -1 := if_neg h

theorem sfind_any (h : StkS w base bK bA el L F) (hl : L.length ≤ 100000) (hn : L.Nodup) (x : Int) : Calls Try.prog 13 #[.pointer (some ⟨bK, 0, none⟩), .int .i64 x] w fun e w' => e = .returned (.int .i64 (findM L x)) ∧ w = w' := by
  obtain ⟨bP, bM, p, v, ms, h, _, rfl, _⟩ := h
  have HM := hide (made_s h)
  have HS := hide (place_any h.pile hl x)
  have HN : Hid (∀ r, FindR p.xs x r → r = findM p.xs x) := hide (fun r hr => hr.eq hn)
  obtain ⟨h0, h1, h2⟩ := h.cells
  clear h hl hn
  go_enter Try.func13, Try.ntmps13
  go_wp2_with (first | (go_at_call 55; refine (unhide HM).mono ?_; rintro e w' ⟨rfl, rfl⟩) | (go_at_call 56; refine (unhide HS).mono ?_; rintro e w' ⟨⟨r, rfl, hr⟩, rfl⟩; have HR := hide hr; clear hr))
  go_ret
  exact ⟨by rw [(unhide HN) r (unhide HR)]; rfl, rfl⟩
end
end Go.Proofs.Ytmllhebmaldgfaa

namespace Go.Proofs.Ytmllhebmaldgfaa
open Go.RowKit

/-- What the element of a number is called. -/
def elOf (ks : List Key) (id : Int) : Option Cal := match keyAt ks id with
  | some q => if q.kind = 1 then some ⟨q.space, q.name⟩ else none
  | none => none
def calOf (ks : List Key) (id : Int) : Cal := (elOf ks id).getD cal0

theorem elOf_none {ks : List Key} {id : Int} (h : keyAt ks id = none) : elOf ks id = none := by simp [elOf, h]
theorem elOf_key {ks : List Key} {id : Int} {q : Key} (h : keyAt ks id = some q) : elOf ks id = if q.kind = 1 then some ⟨q.space, q.name⟩ else none := by simp [elOf, h]
theorem elOf_nat {ks : List Key} {id : Int} (h : (elOf ks id).isSome = true) : ∃ i : Nat, id = (i : Int) ∧ i < ks.length := by
  cases hk : keyAt ks id with
  | none => rw [elOf_none hk] at h; cases h
  | some q =>
    obtain ⟨i, rfl, hi⟩ := keyAt_some hk
    exact ⟨i, rfl, (List.getElem?_eq_some_iff.1 hi).1⟩

/-- Each number of the stack is an element's, and stands there once. -/
structure Good (ks : List Key) (L : List Int) : Prop where
  nodup : L.Nodup
  el : ∀ x ∈ L, (elOf ks x).isSome = true

theorem Good.nil (ks : List Key) : Good ks [] := ⟨List.nodup_nil, fun x hx => by cases hx⟩
theorem Good.len {ks : List Key} {L : List Int} (h : Good ks L) : L.length ≤ ks.length := by
  have h1 : (L.map Int.toNat).Nodup := by
    have key : ∀ l : List Int, l.Nodup → (∀ x ∈ l, (elOf ks x).isSome = true) → (l.map Int.toNat).Nodup := by
      intro l
      induction l with
      | nil => intro _ _; simp
      | cons a l ih =>
        intro hn he
        rw [List.map_cons, List.nodup_cons]
        refine ⟨fun hm => ?_, ih (List.nodup_cons.1 hn).2 (fun x hx => he x (List.mem_cons_of_mem _ hx))⟩
        obtain ⟨y, hy, e⟩ := List.mem_map.1 hm
        obtain ⟨i, rfl, _⟩ := elOf_nat (he a List.mem_cons_self)
        obtain ⟨j, rfl, _⟩ := elOf_nat (he y (List.mem_cons_of_mem _ hy))
        simp at e
        subst e
        exact (List.nodup_cons.1 hn).1 hy
    exact key L h.nodup h.el
  have := List.Nodup.length_le_of_subset h1 (l₂ := List.range ks.length) (fun x hx => by
    obtain ⟨y, hy, rfl⟩ := List.mem_map.1 hx
    obtain ⟨i, rfl, hi⟩ := elOf_nat (h.el y hy)
    simpa using hi)
  simpa using this
theorem Good.cal {ks : List Key} {L : List Int} (h : Good ks L) {x : Int} (hx : x ∈ L) : elOf ks x = some (calOf ks x) := by
  have := h.el x hx
  unfold calOf
  cases he : elOf ks x with
  | none => rw [he] at this; cases this
  | some c => rfl
theorem Good.sub {ks : List Key} {L L2 : List Int} (h : Good ks L) (hs : L2.Sublist L) : Good ks L2 := ⟨h.nodup.sublist hs, fun x hx => h.el x (hs.subset hx)⟩

/-- A stack beside its arena. -/
structure Live (w : World) (base bK bA : Nat) (ks : List Key) (L : List Int) : Prop where
  ar : ∃ F, ArK w base bA ks F
  st : ∃ F, StkS w base bK bA (elOf ks) L F
theorem Live.below {w w' : World} {base bK bA : Nat} {ks : List Key} {L : List Int} (h : Live w base bK bA ks L) (hb : Below w.heap.size w w') : Live w' base bK bA ks L := by
  obtain ⟨⟨F, h1⟩, ⟨G, h2⟩⟩ := h
  exact ⟨⟨F, h1.below hb⟩, ⟨G, h2.below hb⟩⟩


/-- What look tells of a number. -/
def knownOf (ks : List Key) (id : Int) : Value := match elOf ks id with
  | some c => kV c
  | none => .agg zRow
theorem known_ret (W : World) (b : Nat) (cs : Array Value) (hs : cs.size = 8) (h : W.heap[b]? = some (.cells cs 103 (0, 0))) (tmps : Array Value) (x : Value) (h4 : tmps.getD 4 undef = .pointer (some ⟨b, 0, none⟩)) (h5 : tmps.getD 5 undef = x) :
    (results Try.f68 tmps).run Try.prog W = .ok (.tuple #[.agg cs, x]) W := by
  rw [results_cell_tmp (p := 4) (u := 5) (ty := 103) Try.results68 tmps Try.prog W, h4, h5]
  have hr := run_loadVar_row W b 103 103 cs (0, 0) _ h Try.underlying103 rfl (by rw [hs]; kernel_rfl)
  simp [asAddr, hr]

section
variable {w : World} {base bK bA : Nat} {ks : List Key} {L : List Int} {F FA : Nat → Prop}
theorem look_neg (hs : StkS w base bK bA (elOf ks) L F) (id : Int) (hn : id < 0) : Calls Try.prog 68 #[.pointer (some ⟨bK, 0, none⟩), .int .i64 id] w fun e w' =>
    e = .returned (.tuple #[.agg zRow, .bool false]) ∧ Below w.heap.size w w' := by
  obtain ⟨bP, bM, p, v, ms, h, _, _, _⟩ := hs
  have HM := hide (made_s (h.below (below_new w (.cells zRow 103))))
  clear h
  unfold zRow at HM
  go_enter Try.func68, Try.ntmps68
  go_wp2_with (go_at_call 55; refine (unhide HM).mono ?_; rintro e w1 ⟨rfl, rfl⟩)
  exact bodyPost_ret (v := .tuple #[.agg zRow, .bool false]) (known_ret _ w.heap.size zRow rfl (heap_alloc_new w _) _ _ rfl rfl) rfl ⟨rfl, below_new _ _⟩
end
end Go.Proofs.Ytmllhebmaldgfaa

namespace Go.Proofs.Ytmllhebmaldgfaa
open Go.RowKit

section
variable {w : World} {base bK bA : Nat} {ks : List Key} {L : List Int} {F FA : Nat → Prop}
set_option maxHeartbeats 4000000 in
/-- What is kept is told. -/
theorem look_there {bP bM : Nat} {p : PartM} {v : Value} {ms : List (Option Cal)} (h : StkAt w base bK bP bM bA p v ms) {i : Nat} {c : Cal} (hi : ms[i]? = some (some c)) : Calls Try.prog 68 #[.pointer (some ⟨bK, 0, none⟩), .int .i64 (i : Int)] w fun e w' =>
    e = .returned (.tuple #[kV c, .bool true]) ∧ Below w.heap.size w w' := by
  have hb0 := below_new w (.cells zRow 103)
  have h' := h.below hb0
  have HM := hide (made_s h')
  obtain ⟨s0, s1, s2⟩ := h'.cells
  obtain ⟨m0, _⟩ := h'.memo.cells
  obtain ⟨g, cap, rfl, hat⟩ := h'.memo.at hi
  have hlt : (i : Int) < (ms.length : Int) := by have := (List.getElem?_eq_some_iff.1 hi).1; omega
  have hi0 : (0 : Int) ≤ (i : Int) := by omega
  have hin0 : ¬ (i : Int) < 0 := by omega
  have a0 := hat 0 (by omega)
  have a1 := hat 1 (by omega)
  have a2 := hat 2 (by omega)
  have a3 := hat 3 (by omega)
  have a4 := hat 4 (by omega)
  have a5 := hat 5 (by omega)
  have a6 := hat 6 (by omega)
  have a7 := hat 7 (by omega)
  have hgne : g ≠ w.heap.size := by
    have := (h.memo.own.lt g rfl).2
    omega
  have hkv : kV c = .agg #[.int .i64 c.space, .string c.name, .bool (bAt c 5 0), .bool (bAt c 5 1), .bool (bAt c 5 2), .bool (bAt c 5 3), .bool (bAt c 5 4), .bool true] := rfl
  rw [hkv]
  clear hkv
  obtain ⟨cs, cn⟩ := c
  simp only [eCells, kRow, Nat.add_zero, List.getElem?_cons_zero, List.getElem?_cons_succ] at a0 a1 a2 a3 a4 a5 a6 a7
  unfold zRow at *
  generalize bAt ⟨cs, cn⟩ 5 0 = e0 at *
  generalize bAt ⟨cs, cn⟩ 5 1 = e1 at *
  generalize bAt ⟨cs, cn⟩ 5 2 = e2 at *
  generalize bAt ⟨cs, cn⟩ 5 3 = e3 at *
  generalize bAt ⟨cs, cn⟩ 5 4 = e4 at *
  clear h h' hi hat hb0
  go_enter Try.func68, Try.ntmps68
  go_wp2_with (go_at_call 55; refine (unhide HM).mono ?_; rintro e w1 ⟨rfl, rfl⟩)
  exact bodyPost_ret (v := .tuple #[.agg #[.int .i64 cs, .string cn, .bool e0, .bool e1, .bool e2, .bool e3, .bool e4, .bool true], .bool true]) (known_ret _ w.heap.size _ rfl (heap_alloc_new w _) _ _ rfl rfl) rfl ⟨rfl, below_new _ _⟩
end
end Go.Proofs.Ytmllhebmaldgfaa

namespace Go.Proofs.Ytmllhebmaldgfaa
open Go.RowKit

section
variable {w : World} {base bK bA : Nat} {ks : List Key} {L : List Int} {F FA : Nat → Prop}
theorem look_kb (w : World) : ∀ w4, Below (w.alloc (.cells zRow 103)).heap.size (w.alloc (.cells zRow 103)) w4 → w4.heap[w.heap.size]? = some (.cells zRow 103 (0, 0)) ∧ w.heap.size < w4.heap.size ∧ Below w.heap.size w w4 := fun w4 hb4 => by
  have hs := hb4.size
  rw [World.size_alloc] at hs
  exact ⟨(hb4.block _ (by rw [World.size_alloc]; omega)).trans (heap_alloc_new w _), by omega, (below_new w _).trans (hb4.mono (by rw [World.size_alloc]; omega))⟩
theorem look_unfrozen {w4 : World} {b : Nat} {cs : Array Value} {t : TypeId} (h : w4.heap[b]? = some (.cells cs t (0, 0))) : ∀ j : Nat, w4.frozen? ⟨b, j, none⟩ = false := fun j => by simp [World.frozen?, h]
theorem look_fin (w w4 : World) (h1 : w4.heap[w.heap.size]? = some (.cells zRow 103 (0, 0))) (h3 : Below w.heap.size w w4) (hlt : w.heap.size < w4.heap.size) (o : Obj) :
    (((((((((w4.setCell ⟨w.heap.size, 0, none⟩ (.int .i64 0)).setCell ⟨w.heap.size, 1, none⟩ (.string ⟨#[]⟩)).setCell ⟨w.heap.size, 2, none⟩ (.bool false)).setCell ⟨w.heap.size, 3, none⟩ (.bool false)).setCell ⟨w.heap.size, 4, none⟩ (.bool false)).setCell ⟨w.heap.size, 5, none⟩ (.bool false)).setCell ⟨w.heap.size, 6, none⟩ (.bool false)).setCell ⟨w.heap.size, 7, none⟩ (.bool false)).alloc o).heap[w.heap.size]? = some (.cells zRow 103 (0, 0)) ∧
    Below w.heap.size w (((((((((w4.setCell ⟨w.heap.size, 0, none⟩ (.int .i64 0)).setCell ⟨w.heap.size, 1, none⟩ (.string ⟨#[]⟩)).setCell ⟨w.heap.size, 2, none⟩ (.bool false)).setCell ⟨w.heap.size, 3, none⟩ (.bool false)).setCell ⟨w.heap.size, 4, none⟩ (.bool false)).setCell ⟨w.heap.size, 5, none⟩ (.bool false)).setCell ⟨w.heap.size, 6, none⟩ (.bool false)).setCell ⟨w.heap.size, 7, none⟩ (.bool false)).alloc o) := by
  unfold zRow at h1
  obtain ⟨e1, e2⟩ := eight_block w4 w.heap.size (.int .i64 0) (.string ⟨#[]⟩) (.bool false) (.bool false) (.bool false) (.bool false) (.bool false) (.bool false) _ _ _ _ _ _ _ _ _ h1
  have e3 := e2.below h3.size (fun k hk => by omega)
  have hs := e2.size
  exact ⟨(Below.heap_alloc _ _ _ (by omega)).trans e1, (h3.trans e3).alloc (Nat.le_trans h3.size hs) _⟩

set_option maxHeartbeats 4000000 in
theorem look_no1 (ha : ArK w base bA ks FA) {bP bM : Nat} {p : PartM} {v : Value} {ms : List (Option Cal)} (h : StkAt w base bK bP bM bA p v ms) {i : Nat} (hi : ms.length ≤ i) (hk : keyAt ks (i : Int) = none) : Calls Try.prog 68 #[.pointer (some ⟨bK, 0, none⟩), .int .i64 (i : Int)] w fun e w' =>
    e = .returned (.tuple #[.agg zRow, .bool false]) ∧ Below w.heap.size w w' := by
  have hb0 := below_new w (.cells zRow 103)
  have h' := h.below hb0
  have HM := hide (made_s h')
  obtain ⟨s0, s1, s2⟩ := h'.cells
  obtain ⟨m0, _⟩ := h'.memo.cells
  have HKB := hide (look_kb w)
  have hi0 : (0 : Int) ≤ (i : Int) := by omega
  have hin0 : ¬ (i : Int) < 0 := by omega
  obtain ⟨a, cap, rfl⟩ := h'.memo.len
  have hge : ¬ (i : Int) < (ms.length : Int) := by omega
  have HN := hide (node_k_no (ha.below hb0) hk)
  generalize ms.length = len at *
  clear h h' ha hi hk hb0
  unfold zRow at HM HN HKB s0 s1 s2 m0
  go_enter Try.func68, Try.ntmps68
  go_wp2_with (first | (go_at_call 55; refine (unhide HM).mono ?_; rintro e w1 ⟨rfl, rfl⟩) | (go_at_call 18; refine (unhide HN).mono ?_; rintro e w4 ⟨rfl, hb4⟩; obtain ⟨kb1, kb2, kb3⟩ := (unhide HKB) w4 hb4; have y0 := (cell_row _ _ 0 _ _ _ kb1).trans (List.getElem?_toArray ..); have y1 := (cell_row _ _ 1 _ _ _ kb1).trans (List.getElem?_toArray ..); have y2 := (cell_row _ _ 2 _ _ _ kb1).trans (List.getElem?_toArray ..); have y3 := (cell_row _ _ 3 _ _ _ kb1).trans (List.getElem?_toArray ..); have y4 := (cell_row _ _ 4 _ _ _ kb1).trans (List.getElem?_toArray ..); have y5 := (cell_row _ _ 5 _ _ _ kb1).trans (List.getElem?_toArray ..); have y6 := (cell_row _ _ 6 _ _ _ kb1).trans (List.getElem?_toArray ..); have y7 := (cell_row _ _ 7 _ _ _ kb1).trans (List.getElem?_toArray ..); simp only [List.getElem?_cons_zero, List.getElem?_cons_succ] at y0 y1 y2 y3 y4 y5 y6 y7; have yf := look_unfrozen kb1; have yf0 := yf 0; have yf1 := yf 1; have yf2 := yf 2; have yf3 := yf 3; have yf4 := yf 4; have yf5 := yf 5; have yf6 := yf 6; have yf7 := yf 7; have kne : ¬ w.heap.size = w4.heap.size := (by omega); have kne2 : ¬ w4.heap.size = w.heap.size := (by omega); have klt : w.heap.size < w4.heap.size := kb2; have HB1 := hide kb1; have HB3 := hide kb3; unfold nodeZ; clear hb4 kb1 kb2 kb3 yf))
  have R := fun o => look_fin w w4 (unhide HB1) (unhide HB3) klt o
  unfold zRow at R
  exact bodyPost_ret (v := .tuple #[.agg zRow, .bool false]) (known_ret _ w.heap.size zRow rfl (R _).1 _ _ rfl rfl) rfl ⟨rfl, (R _).2⟩

set_option maxHeartbeats 4000000 in
theorem look_no2 (ha : ArK w base bA ks FA) {bP bM : Nat} {p : PartM} {v : Value} {ms : List (Option Cal)} (h : StkAt w base bK bP bM bA p v ms) {i : Nat} (hi : ms.length ≤ i) {q : Key} (hk : keyAt ks (i : Int) = some q) (hq1 : q.kind ≠ 1) : Calls Try.prog 68 #[.pointer (some ⟨bK, 0, none⟩), .int .i64 (i : Int)] w fun e w' =>
    e = .returned (.tuple #[.agg zRow, .bool false]) ∧ Below w.heap.size w w' := by
  have hb0 := below_new w (.cells zRow 103)
  have h' := h.below hb0
  have HM := hide (made_s h')
  obtain ⟨s0, s1, s2⟩ := h'.cells
  obtain ⟨m0, _⟩ := h'.memo.cells
  have HKB := hide (look_kb w)
  have hi0 : (0 : Int) ≤ (i : Int) := by omega
  have hin0 : ¬ (i : Int) < 0 := by omega
  obtain ⟨a, cap, rfl⟩ := h'.memo.len
  have hge : ¬ (i : Int) < (ms.length : Int) := by omega
  have HN := hide (node_k (ha.below hb0) hk)
  obtain ⟨qk, qs, qn⟩ := q
  have hq1' : (qk != 1) = true := by simpa using hq1
  clear hq1
  generalize ms.length = len at *
  clear h h' ha hi hk hb0
  unfold zRow at HM HN HKB s0 s1 s2 m0
  go_enter Try.func68, Try.ntmps68
  go_wp2_with (first | (go_at_call 55; refine (unhide HM).mono ?_; rintro e w1 ⟨rfl, rfl⟩) | (go_at_call 18; refine (unhide HN).mono ?_; rintro e w4 ⟨n, ao, mm, cc, rfl, hq, hb4⟩; obtain ⟨nk, nsp, nnm, nav, nda, nsy, npa, nfi, nla, npr, nne, nin, nat⟩ := n; obtain ⟨kb1, kb2, kb3⟩ := (unhide HKB) w4 hb4; have y0 := (cell_row _ _ 0 _ _ _ kb1).trans (List.getElem?_toArray ..); have y1 := (cell_row _ _ 1 _ _ _ kb1).trans (List.getElem?_toArray ..); have y2 := (cell_row _ _ 2 _ _ _ kb1).trans (List.getElem?_toArray ..); have y3 := (cell_row _ _ 3 _ _ _ kb1).trans (List.getElem?_toArray ..); have y4 := (cell_row _ _ 4 _ _ _ kb1).trans (List.getElem?_toArray ..); have y5 := (cell_row _ _ 5 _ _ _ kb1).trans (List.getElem?_toArray ..); have y6 := (cell_row _ _ 6 _ _ _ kb1).trans (List.getElem?_toArray ..); have y7 := (cell_row _ _ 7 _ _ _ kb1).trans (List.getElem?_toArray ..); simp only [List.getElem?_cons_zero, List.getElem?_cons_succ] at y0 y1 y2 y3 y4 y5 y6 y7; have yf := look_unfrozen kb1; have yf0 := yf 0; have yf1 := yf 1; have yf2 := yf 2; have yf3 := yf 3; have yf4 := yf 4; have yf5 := yf 5; have yf6 := yf 6; have yf7 := yf 7; have kne : ¬ w.heap.size = w4.heap.size := (by omega); have kne2 : ¬ w4.heap.size = w.heap.size := (by omega); have klt : w.heap.size < w4.heap.size := kb2; have HB1 := hide kb1; have HB3 := hide kb3; simp only [nodeV, NodeM.cells]; simp only [keyN, Key.mk.injEq] at hq; obtain ⟨rfl, rfl, rfl⟩ := hq; clear hb4 kb1 kb2 kb3 yf))
  have R := fun o => look_fin w w4 (unhide HB1) (unhide HB3) klt o
  unfold zRow at R
  exact bodyPost_ret (v := .tuple #[.agg zRow, .bool false]) (known_ret _ w.heap.size zRow rfl (R _).1 _ _ rfl rfl) rfl ⟨rfl, (R _).2⟩

set_option maxHeartbeats 4000000 in
theorem look_no3 (ha : ArK w base bA ks FA) {bP bM : Nat} {p : PartM} {v : Value} {ms : List (Option Cal)} (h : StkAt w base bK bP bM bA p v ms) {i : Nat} (hi : ms[i]? = some none) (hk : keyAt ks (i : Int) = none) : Calls Try.prog 68 #[.pointer (some ⟨bK, 0, none⟩), .int .i64 (i : Int)] w fun e w' =>
    e = .returned (.tuple #[.agg zRow, .bool false]) ∧ Below w.heap.size w w' := by
  have hb0 := below_new w (.cells zRow 103)
  have h' := h.below hb0
  have HM := hide (made_s h')
  obtain ⟨s0, s1, s2⟩ := h'.cells
  obtain ⟨m0, _⟩ := h'.memo.cells
  have HKB := hide (look_kb w)
  have hi0 : (0 : Int) ≤ (i : Int) := by omega
  have hin0 : ¬ (i : Int) < 0 := by omega
  obtain ⟨g, cap, rfl, hat⟩ := h'.memo.at hi
  have hlt : (i : Int) < (ms.length : Int) := by have := (List.getElem?_eq_some_iff.1 hi).1; omega
  have a7 := hat 7 (by omega)
  simp only [eCells, zRow, List.getElem?_cons_zero, List.getElem?_cons_succ] at a7
  have HN := hide (node_k_no (ha.below hb0) hk)
  generalize ms.length = len at *
  clear h h' ha hi hk hb0 hat
  unfold zRow at HM HN HKB s0 s1 s2 m0
  go_enter Try.func68, Try.ntmps68
  go_wp2_with (first | (go_at_call 55; refine (unhide HM).mono ?_; rintro e w1 ⟨rfl, rfl⟩) | (go_at_call 18; refine (unhide HN).mono ?_; rintro e w4 ⟨rfl, hb4⟩; obtain ⟨kb1, kb2, kb3⟩ := (unhide HKB) w4 hb4; have y0 := (cell_row _ _ 0 _ _ _ kb1).trans (List.getElem?_toArray ..); have y1 := (cell_row _ _ 1 _ _ _ kb1).trans (List.getElem?_toArray ..); have y2 := (cell_row _ _ 2 _ _ _ kb1).trans (List.getElem?_toArray ..); have y3 := (cell_row _ _ 3 _ _ _ kb1).trans (List.getElem?_toArray ..); have y4 := (cell_row _ _ 4 _ _ _ kb1).trans (List.getElem?_toArray ..); have y5 := (cell_row _ _ 5 _ _ _ kb1).trans (List.getElem?_toArray ..); have y6 := (cell_row _ _ 6 _ _ _ kb1).trans (List.getElem?_toArray ..); have y7 := (cell_row _ _ 7 _ _ _ kb1).trans (List.getElem?_toArray ..); simp only [List.getElem?_cons_zero, List.getElem?_cons_succ] at y0 y1 y2 y3 y4 y5 y6 y7; have yf := look_unfrozen kb1; have yf0 := yf 0; have yf1 := yf 1; have yf2 := yf 2; have yf3 := yf 3; have yf4 := yf 4; have yf5 := yf 5; have yf6 := yf 6; have yf7 := yf 7; have kne : ¬ w.heap.size = w4.heap.size := (by omega); have kne2 : ¬ w4.heap.size = w.heap.size := (by omega); have klt : w.heap.size < w4.heap.size := kb2; have HB1 := hide kb1; have HB3 := hide kb3; unfold nodeZ; clear hb4 kb1 kb2 kb3 yf))
  have R := fun o => look_fin w w4 (unhide HB1) (unhide HB3) klt o
  unfold zRow at R
  exact bodyPost_ret (v := .tuple #[.agg zRow, .bool false]) (known_ret _ w.heap.size zRow rfl (R _).1 _ _ rfl rfl) rfl ⟨rfl, (R _).2⟩

set_option maxHeartbeats 4000000 in
theorem look_no4 (ha : ArK w base bA ks FA) {bP bM : Nat} {p : PartM} {v : Value} {ms : List (Option Cal)} (h : StkAt w base bK bP bM bA p v ms) {i : Nat} (hi : ms[i]? = some none) {q : Key} (hk : keyAt ks (i : Int) = some q) (hq1 : q.kind ≠ 1) : Calls Try.prog 68 #[.pointer (some ⟨bK, 0, none⟩), .int .i64 (i : Int)] w fun e w' =>
    e = .returned (.tuple #[.agg zRow, .bool false]) ∧ Below w.heap.size w w' := by
  have hb0 := below_new w (.cells zRow 103)
  have h' := h.below hb0
  have HM := hide (made_s h')
  obtain ⟨s0, s1, s2⟩ := h'.cells
  obtain ⟨m0, _⟩ := h'.memo.cells
  have HKB := hide (look_kb w)
  have hi0 : (0 : Int) ≤ (i : Int) := by omega
  have hin0 : ¬ (i : Int) < 0 := by omega
  obtain ⟨g, cap, rfl, hat⟩ := h'.memo.at hi
  have hlt : (i : Int) < (ms.length : Int) := by have := (List.getElem?_eq_some_iff.1 hi).1; omega
  have a7 := hat 7 (by omega)
  simp only [eCells, zRow, List.getElem?_cons_zero, List.getElem?_cons_succ] at a7
  have HN := hide (node_k (ha.below hb0) hk)
  obtain ⟨qk, qs, qn⟩ := q
  have hq1' : (qk != 1) = true := by simpa using hq1
  clear hq1
  generalize ms.length = len at *
  clear h h' ha hi hk hb0 hat
  unfold zRow at HM HN HKB s0 s1 s2 m0
  go_enter Try.func68, Try.ntmps68
  go_wp2_with (first | (go_at_call 55; refine (unhide HM).mono ?_; rintro e w1 ⟨rfl, rfl⟩) | (go_at_call 18; refine (unhide HN).mono ?_; rintro e w4 ⟨n, ao, mm, cc, rfl, hq, hb4⟩; obtain ⟨nk, nsp, nnm, nav, nda, nsy, npa, nfi, nla, npr, nne, nin, nat⟩ := n; obtain ⟨kb1, kb2, kb3⟩ := (unhide HKB) w4 hb4; have y0 := (cell_row _ _ 0 _ _ _ kb1).trans (List.getElem?_toArray ..); have y1 := (cell_row _ _ 1 _ _ _ kb1).trans (List.getElem?_toArray ..); have y2 := (cell_row _ _ 2 _ _ _ kb1).trans (List.getElem?_toArray ..); have y3 := (cell_row _ _ 3 _ _ _ kb1).trans (List.getElem?_toArray ..); have y4 := (cell_row _ _ 4 _ _ _ kb1).trans (List.getElem?_toArray ..); have y5 := (cell_row _ _ 5 _ _ _ kb1).trans (List.getElem?_toArray ..); have y6 := (cell_row _ _ 6 _ _ _ kb1).trans (List.getElem?_toArray ..); have y7 := (cell_row _ _ 7 _ _ _ kb1).trans (List.getElem?_toArray ..); simp only [List.getElem?_cons_zero, List.getElem?_cons_succ] at y0 y1 y2 y3 y4 y5 y6 y7; have yf := look_unfrozen kb1; have yf0 := yf 0; have yf1 := yf 1; have yf2 := yf 2; have yf3 := yf 3; have yf4 := yf 4; have yf5 := yf 5; have yf6 := yf 6; have yf7 := yf 7; have kne : ¬ w.heap.size = w4.heap.size := (by omega); have kne2 : ¬ w4.heap.size = w.heap.size := (by omega); have klt : w.heap.size < w4.heap.size := kb2; have HB1 := hide kb1; have HB3 := hide kb3; simp only [nodeV, NodeM.cells]; simp only [keyN, Key.mk.injEq] at hq; obtain ⟨rfl, rfl, rfl⟩ := hq; clear hb4 kb1 kb2 kb3 yf))
  have R := fun o => look_fin w w4 (unhide HB1) (unhide HB3) klt o
  unfold zRow at R
  exact bodyPost_ret (v := .tuple #[.agg zRow, .bool false]) (known_ret _ w.heap.size zRow rfl (R _).1 _ _ rfl rfl) rfl ⟨rfl, (R _).2⟩
end
end Go.Proofs.Ytmllhebmaldgfaa
