/-
  
-/
import Derived.Test.YtmkdnmkckipnaaaGreatSBam
import Derived.Deep.RegionHeld3
namespace Go.Proofs.YtmkdnmkckipnaaaGreat
open Go.RowKit

/-- A stack at block bK of the arena at bA: its pile at bP. -/
structure StkAt (w : World) (base bK bP bA : Nat) (p : PartM) : Prop where
  box : w.heap[bK]? = some (.cells #[.pointer (some ⟨bA, 0, none⟩), .pointer (some ⟨bP, 0, none⟩)] 113 (0, 0))
  pile : PileAt w base bP p
  lo : base ≤ bK

def footS (bK bP : Nat) (p : PartM) (k : Nat) : Prop := k = bK ∨ footP bP p k

section
variable {w w' : World} {base bK bP bA : Nat} {p : PartM} {F G : Nat → Prop}
theorem StkAt.cells (h : StkAt w base bK bP bA p) : w.cell? ⟨bK, 0, none⟩ = some (.pointer (some ⟨bA, 0, none⟩)) ∧ w.cell? ⟨bK, 1, none⟩ = some (.pointer (some ⟨bP, 0, none⟩)) := by
  have hb := h.box
  exact ⟨by simp [World.cell?, hb], by simp [World.cell?, hb]⟩
theorem StkAt.lt (h : StkAt w base bK bP bA p) : bK < w.heap.size := lt_of_block h.box
theorem StkAt.ne (h : StkAt w base bK bP bA p) : ¬ footP bP p bK := by
  rintro (e | e)
  · subst e
    have := h.pile.box
    rw [h.box] at this
    cases this
  · obtain ⟨_, _, cu, hc⟩ := h.pile.part.own_lt e
    rw [h.box] at hc
    cases hc
theorem StkAt.foot_lt (h : StkAt w base bK bP bA p) {k : Nat} (hk : footS bK bP p k) : base ≤ k ∧ k < w.heap.size := by
  rcases hk with rfl | hk
  · exact ⟨h.lo, h.lt⟩
  · exact h.pile.foot_lt hk
theorem StkAt.mod (h : StkAt w base bK bP bA p) (hm : Mod G w w') (hG : ∀ k, footS bK bP p k → ¬ G k) : StkAt w' base bK bP bA p :=
  ⟨(hm.block bK h.lt (hG bK (.inl rfl))).trans h.box, h.pile.mod hm (fun k hk => hG k (.inr hk)), h.lo⟩
theorem StkAt.below (h : StkAt w base bK bP bA p) (hb : Below w.heap.size w w') : StkAt w' base bK bP bA p := h.mod (Mod.of_below (F := fun _ => False) hb) (fun _ _ e => e)
end

/-- A stack at bK of the arena at bA, with these numbers, in the blocks F. -/
def StkS (w : World) (base bK bA : Nat) (L : List Int) (F : Nat → Prop) : Prop := ∃ bP p, StkAt w base bK bP bA p ∧ p.xs = L ∧ ∀ k, F k ↔ footS bK bP p k
def UpdS (F : Nat → Prop) (w w' : World) (base bK bA : Nat) (L : List Int) : Prop := ∃ F', StkS w' base bK bA L F' ∧ Mod F w w' ∧ ∀ k, F' k → F k ∨ w.heap.size ≤ k

section
variable {w w' w1 : World} {base bK bP bA : Nat} {L : List Int} {p : PartM} {F G : Nat → Prop}
theorem StkS.lt (h : StkS w base bK bA L F) {k : Nat} (hk : F k) : base ≤ k ∧ k < w.heap.size := by
  obtain ⟨bP, p, h, _, hF⟩ := h
  exact h.foot_lt ((hF k).1 hk)
theorem StkS.mod (h : StkS w base bK bA L F) (hm : Mod G w w') (hG : ∀ k, F k → ¬ G k) : StkS w' base bK bA L F := by
  obtain ⟨bP, p, h, e, hF⟩ := h
  exact ⟨bP, p, h.mod hm (fun k hk => hG k ((hF k).2 hk)), e, hF⟩
theorem StkS.below (h : StkS w base bK bA L F) (hb : Below w.heap.size w w') : StkS w' base bK bA L F := h.mod (Mod.of_below (F := fun _ => False) hb) (fun _ _ e => e)
theorem StkS.upd (h : StkS w base bK bA L F) (hb : Below w.heap.size w w') : UpdS F w w' base bK bA L := ⟨F, h.below hb, Mod.of_below hb, fun _ hk => .inl hk⟩
theorem UpdS.after (hb : Below w.heap.size w w1) (h : UpdS F w1 w' base bK bA L) : UpdS F w w' base bK bA L := by
  obtain ⟨F', h1, h2, h3⟩ := h
  exact ⟨F', h1, (Mod.of_below hb).trans h2, fun k hk => (h3 k hk).imp id (fun h => Nat.le_trans hb.size h)⟩
theorem UpdS.then (h : UpdS F w w1 base bK bA L) (hb : Below w1.heap.size w1 w') : UpdS F w w' base bK bA L := by
  obtain ⟨F', h1, h2, h3⟩ := h
  exact ⟨F', h1.below hb, h2.trans (Mod.of_below hb), h3⟩
theorem UpdS.chain {L2 : List Int} (h : UpdS F w w1 base bK bA L) (h2 : ∀ F', StkS w1 base bK bA L F' → UpdS F' w1 w' base bK bA L2) : UpdS F w w' base bK bA L2 := by
  obtain ⟨F', h1, hm, hf⟩ := h
  obtain ⟨F2, g1, g2, g3⟩ := h2 F' h1
  refine ⟨F2, g1, hm.then g2 hf, fun k hk => ?_⟩
  rcases g3 k hk with e | e
  · exact hf k e
  · exact .inr (Nat.le_trans hm.size e)
/-- What a method of the pile makes of the stack. -/
theorem StkAt.upd (h : StkAt w base bK bP bA p) (hF : ∀ k, F k ↔ footS bK bP p k) (hu : UpdP w w' base bP p L) : UpdS F w w' base bK bA L := by
  obtain ⟨p', h1, h2, h3, h4⟩ := hu
  refine ⟨footS bK bP p', ⟨bP, p', ⟨(h3.block bK h.lt h.ne).trans h.box, h1, h.lo⟩, h2, fun _ => Iff.rfl⟩, h3.mono (fun k _ hk => (hF k).2 (.inr hk)), ?_⟩
  rintro k (rfl | hk)
  · exact .inl ((hF _).2 (.inl rfl))
  · exact (h4 k hk).imp (fun e => (hF k).2 (.inr e)) id
end

def atM (L : List Int) (i : Int) : Int := if 0 ≤ i then (L[i.toNat]?).getD (-1) else -1
theorem atM_in {L : List Int} {i : Nat} {x : Int} (h : L[i]? = some x) : atM L (i : Int) = x := by simp [atM, h]
theorem atM_out {L : List Int} {i : Int} (h : i < 0 ∨ (L.length : Int) ≤ i) : atM L i = -1 := by
  unfold atM
  split
  · rw [List.getElem?_eq_none (by omega)]; rfl
  · rfl
def topM (L : List Int) : Int := atM L ((L.length : Int) - 1)

section
variable {w : World} {base bK bP bA : Nat} {L : List Int} {p : PartM} {F : Nat → Prop}

theorem made_s (h : StkAt w base bK bP bA p) : Calls Tryz.prog 48 #[.pointer (some ⟨bK, 0, none⟩)] w fun e w' => e = .returned (.bool true) ∧ w = w' := by
  obtain ⟨h0, h1⟩ := h.cells
  clear h
  go_enter Tryz.func48, Tryz.ntmps48
  go_wp2
  go_ret
  exact ⟨rfl, rfl⟩

theorem slen_any (h : StkS w base bK bA L F) : Calls Tryz.prog 13 #[.pointer (some ⟨bK, 0, none⟩)] w fun e w' => e = .returned (.int .i64 L.length) ∧ w = w' := by
  obtain ⟨bP, p, h, rfl, _⟩ := h
  have HM := hide (made_s h)
  have HS := hide (size_any h.pile)
  obtain ⟨h0, h1⟩ := h.cells
  clear h
  go_enter Tryz.func13, Tryz.ntmps13
  go_wp2_with (first | (go_at_call 48; refine (unhide HM).mono ?_; rintro e w' ⟨rfl, rfl⟩) | (go_at_call 49; refine (unhide HS).mono ?_; rintro e w' ⟨rfl, rfl⟩))
  go_ret
  exact ⟨rfl, rfl⟩

theorem sat_any (h : StkS w base bK bA L F) (i : Int) : Calls Tryz.prog 15 #[.pointer (some ⟨bK, 0, none⟩), .int .i64 i] w fun e w' => e = .returned (.int .i64 (atM L i)) ∧ w = w' := by
  have HL := hide (slen_any h)
  obtain ⟨bP, p, h, rfl, _⟩ := h
  obtain ⟨h0, h1⟩ := h.cells
  by_cases hi : i < 0
  · rw [atM_out (.inl hi)]
    clear h
    go_enter Tryz.func15, Tryz.ntmps15
    go_wp2
    go_ret
    exact ⟨rfl, rfl⟩
  · by_cases hj : (p.xs.length : Int) ≤ i
    · rw [atM_out (.inr hj)]
      clear h
      generalize p.xs.length = n at *
      go_enter Tryz.func15, Tryz.ntmps15
      go_wp2_with (go_at_call 13; refine (unhide HL).mono ?_; rintro e w' ⟨rfl, rfl⟩)
      go_ret
      exact ⟨rfl, rfl⟩
    · obtain ⟨k, rfl⟩ : ∃ k : Nat, i = (k : Int) := ⟨i.toNat, by omega⟩
      obtain ⟨x, hx⟩ : ∃ x, p.xs[k]? = some x := ⟨_, List.getElem?_eq_getElem (by omega)⟩
      rw [atM_in hx]
      have HA := hide (at_any h.pile k x hx)
      clear h hx
      generalize p.xs.length = n at *
      go_enter Tryz.func15, Tryz.ntmps15
      go_wp2_with (first | (go_at_call 13; refine (unhide HL).mono ?_; rintro e w' ⟨rfl, rfl⟩) | (go_at_call 52; refine (unhide HA).mono ?_; rintro e w' ⟨rfl, rfl⟩))
      go_ret
      exact ⟨rfl, rfl⟩

theorem stop_any (h : StkS w base bK bA L F) (hl : L.length ≤ 100000) : Calls Tryz.prog 83 #[.pointer (some ⟨bK, 0, none⟩)] w fun e w' => e = .returned (.int .i64 (topM L)) ∧ w = w' := by
  have HL := hide (slen_any h)
  have HA := hide (sat_any h ((L.length : Int) - 1))
  have hz : (L.length : Int) ≤ 100000 := by omega
  unfold topM
  generalize atM L ((L.length : Int) - 1) = r at *
  generalize L.length = n at *
  clear h hl
  go_enter Tryz.func83, Tryz.ntmps83
  go_wp2_with (first | (go_at_call 13; refine (unhide HL).mono ?_; rintro e w' ⟨rfl, rfl⟩) | (go_at_call 15; refine (unhide HA).mono ?_; rintro e w' ⟨rfl, rfl⟩))
  go_ret
  exact ⟨rfl, rfl⟩

def findM (L : List Int) (x : Int) : Int := if x ∈ L then (L.idxOf x : Int) else -1
theorem idxOf_at {L : List Int} (hn : L.Nodup) {j : Nat} {x : Int} (h : L[j]? = some x) : L.idxOf x = j := by
  induction L generalizing j with
  | nil => simp at h
  | cons y L ih =>
    cases j with
    | zero => simp at h; subst h; simp
    | succ j =>
      have h' : L[j]? = some x := by simpa using h
      have hm : x ∈ L := List.mem_of_getElem? h'
      have hne : y ≠ x := by
        intro e; subst e
        exact (List.nodup_cons.1 hn).1 hm
      rw [List.idxOf_cons]
      have : (y == x) = false := by simpa using hne
      rw [this]
      simp only [cond_false]
      rw [ih (List.nodup_cons.1 hn).2 h']
theorem FindR.eq {x r : Int} (h : FindR L x r) (hn : L.Nodup) : r = findM L x := by
  rcases h with ⟨rfl, h⟩ | ⟨j, rfl, h⟩
  · rw [findM, if_neg h]
  · rw [findM, if_pos (List.mem_of_getElem? h), idxOf_at hn h]
theorem findM_in {x : Int} (h : x ∈ L) : ∃ j : Nat, findM L x = (j : Int) ∧ L[j]? = some x ∧ j < L.length := by
  refine ⟨L.idxOf x, if_pos h, ?_, List.idxOf_lt_length_of_mem h⟩
  rw [List.getElem?_eq_getElem (List.idxOf_lt_length_of_mem h), List.getElem_idxOf]
theorem findM_out {x : Int} (h : x ∉ L) : findM L x = -1 := if_neg h

theorem sfind_any (h : StkS w base bK bA L F) (hl : L.length ≤ 100000) (hn : L.Nodup) (x : Int) : Calls Tryz.prog 89 #[.pointer (some ⟨bK, 0, none⟩), .int .i64 x] w fun e w' => e = .returned (.int .i64 (findM L x)) ∧ w = w' := by
  obtain ⟨bP, p, h, rfl, _⟩ := h
  have HM := hide (made_s h)
  have HS := hide (place_any h.pile hl x)
  have HN : Hid (∀ r, FindR p.xs x r → r = findM p.xs x) := hide (fun r hr => hr.eq hn)
  obtain ⟨h0, h1⟩ := h.cells
  clear h hl hn
  go_enter Tryz.func89, Tryz.ntmps89
  go_wp2_with (first | (go_at_call 48; refine (unhide HM).mono ?_; rintro e w' ⟨rfl, rfl⟩) | (go_at_call 122; refine (unhide HS).mono ?_; rintro e w' ⟨⟨r, rfl, hr⟩, rfl⟩; have HR := hide hr; clear hr))
  go_ret
  exact ⟨by rw [(unhide HN) r (unhide HR)]; rfl, rfl⟩
end
end Go.Proofs.YtmkdnmkckipnaaaGreat
/-
  A stack of package stack: what its elements are called; elements pushed, popped, put in, swapped and taken out.
-/
namespace Go.Proofs.YtmkdnmkckipnaaaGreat
open Go.RowKit

structure Cal where
  space : Int
  name : ByteArray
def Cal.agg (c : Cal) : Value := .agg #[.int .i64 c.space, .string c.name]
def cal0 : Cal := ⟨0, emptyS⟩

/-- What the element of a number is called. -/
def elOf (ks : List Key) (id : Int) : Option Cal := match keyAt ks id with
  | some q => if q.kind = 1 then some ⟨q.space, q.name⟩ else none
  | none => none
def calOf (ks : List Key) (id : Int) : Cal := (elOf ks id).getD cal0

theorem elOf_none {ks : List Key} {id : Int} (h : keyAt ks id = none) : elOf ks id = none := by simp [elOf, h]
theorem elOf_key {ks : List Key} {id : Int} {q : Key} (h : keyAt ks id = some q) : elOf ks id = if q.kind = 1 then some ⟨q.space, q.name⟩ else none := by simp [elOf, h]
theorem elOf_nat {ks : List Key} {id : Int} (h : (elOf ks id).isSome = true) : ∃ i : Nat, id = (i : Int) ∧ i < ks.length := by
  cases hk : keyAt ks id with
  | none => rw [elOf_none hk] at h; cases h
  | some q =>
    obtain ⟨i, rfl, hi⟩ := keyAt_some hk
    exact ⟨i, rfl, (List.getElem?_eq_some_iff.1 hi).1⟩

/-- Each number of the stack is an element's, and stands there once. -/
structure Good (ks : List Key) (L : List Int) : Prop where
  nodup : L.Nodup
  el : ∀ x ∈ L, (elOf ks x).isSome = true

theorem Good.nil (ks : List Key) : Good ks [] := ⟨List.nodup_nil, fun x hx => by cases hx⟩
theorem Good.len {ks : List Key} {L : List Int} (h : Good ks L) : L.length ≤ ks.length := by
  have h1 : (L.map Int.toNat).Nodup := by
    have key : ∀ l : List Int, l.Nodup → (∀ x ∈ l, (elOf ks x).isSome = true) → (l.map Int.toNat).Nodup := by
      intro l
      induction l with
      | nil => intro _ _; simp
      | cons a l ih =>
        intro hn he
        rw [List.map_cons, List.nodup_cons]
        refine ⟨fun hm => ?_, ih (List.nodup_cons.1 hn).2 (fun x hx => he x (List.mem_cons_of_mem _ hx))⟩
        obtain ⟨y, hy, e⟩ := List.mem_map.1 hm
        obtain ⟨i, rfl, _⟩ := elOf_nat (he a List.mem_cons_self)
        obtain ⟨j, rfl, _⟩ := elOf_nat (he y (List.mem_cons_of_mem _ hy))
        simp at e
        subst e
        exact (List.nodup_cons.1 hn).1 hy
    exact key L h.nodup h.el
  have := List.Nodup.length_le_of_subset h1 (l₂ := List.range ks.length) (fun x hx => by
    obtain ⟨y, hy, rfl⟩ := List.mem_map.1 hx
    obtain ⟨i, rfl, hi⟩ := elOf_nat (h.el y hy)
    simpa using hi)
  simpa using this
theorem Good.cal {ks : List Key} {L : List Int} (h : Good ks L) {x : Int} (hx : x ∈ L) : elOf ks x = some (calOf ks x) := by
  have := h.el x hx
  unfold calOf
  cases he : elOf ks x with
  | none => rw [he] at this; cases this
  | some c => rfl
theorem Good.sub {ks : List Key} {L L2 : List Int} (h : Good ks L) (hs : L2.Sublist L) : Good ks L2 := ⟨h.nodup.sublist hs, fun x hx => h.el x (hs.subset hx)⟩

/-- A stack beside its arena. -/
structure Live (w : World) (base bK bA : Nat) (ks : List Key) (L : List Int) : Prop where
  ar : ∃ F, ArK w base bA ks F
  st : ∃ F, StkS w base bK bA L F
theorem Live.below {w w' : World} {base bK bA : Nat} {ks : List Key} {L : List Int} (h : Live w base bK bA ks L) (hb : Below w.heap.size w w') : Live w' base bK bA ks L := by
  obtain ⟨⟨F, h1⟩, ⟨G, h2⟩⟩ := h
  exact ⟨⟨F, h1.below hb⟩, ⟨G, h2.below hb⟩⟩

theorem two_block (w : World) (b : Nat) (v0 v1 x0 x1 : Value) (t : TypeId) (h : w.heap[b]? = some (.cells #[x0, x1] t (0, 0))) : ((w.setCell ⟨b, 0, none⟩ v0).setCell ⟨b, 1, none⟩ v1).heap[b]? = some (.cells #[v0, v1] t (0, 0)) := by
  have h0 := heap_setCell_same w b 0 #[x0, x1] t v0 h
  have h1 := heap_setCell_same _ b 1 _ t v1 h0
  simpa using h1
/-- What look's two results are read as. -/
theorem look_ret (W : World) (b : Nat) (c : Cal) (h : W.heap[b]? = some (.cells #[.int .i64 c.space, .string c.name] 183 (0, 0))) (tmps : Array Value) (x : Value) (h4 : tmps.getD 4 undef = .pointer (some ⟨b, 0, none⟩)) (h5 : tmps.getD 5 undef = x) :
    (results Tryz.f144 tmps).run Tryz.prog W = .ok (.tuple #[c.agg, x]) W := by
  have c0 : W.cell? ⟨b, 0, none⟩ = some (.int .i64 c.space) := by simp [World.cell?, h]
  have c1 : W.cell? ⟨b, 1, none⟩ = some (.string c.name) := by simp [World.cell?, h]
  rw [results_cell_tmp (p := 4) (u := 5) (ty := 183) Tryz.results144 tmps Tryz.prog W, h4, h5]
  simp [go_sem, c0, c1, Cal.agg]

section
variable {w : World} {base bK bA : Nat} {ks : List Key} {L : List Int} {F : Nat → Prop}

set_option maxHeartbeats 2000000 in
theorem look_any (h : Live w base bK bA ks L) (id : Int) : Calls Tryz.prog 144 #[.pointer (some ⟨bK, 0, none⟩), .int .i64 id] w fun e w' =>
    e = .returned (.tuple #[(calOf ks id).agg, .bool (elOf ks id).isSome]) ∧ Below w.heap.size w w' := by
  obtain ⟨⟨FA, ha⟩, FS, bP, p, hs, rfl, _⟩ := h
  have hb0 : Below w.heap.size w (w.alloc (.cells #[.int .i64 0, .string ⟨#[]⟩] 183)) := (Below.refl _ w).alloc (Nat.le_refl _) _
  have HM := hide (made_s (hs.below hb0))
  have hltK := hs.lt
  obtain ⟨h0, h1⟩ := hs.cells
  have kb : ∀ w4, Below (w.alloc (.cells #[.int .i64 0, .string ⟨#[]⟩] 183)).heap.size (w.alloc (.cells #[.int .i64 0, .string ⟨#[]⟩] 183)) w4 →
      w4.heap[w.heap.size]? = some (.cells #[.int .i64 0, .string ⟨#[]⟩] 183 (0, 0)) ∧ w.heap.size < w4.heap.size ∧ Below w.heap.size w w4 := by
    intro w4 hb4
    refine ⟨(hb4.block _ (by simp)).trans (heap_alloc_new w _), ?_, hb0.trans (hb4.mono (by simp))⟩
    have := hb4.size
    simp at this
    omega
  have HKB := hide kb
  have fin : ∀ (w4 : World) (c : Cal) (o : Obj), Below w.heap.size w w4 → w.heap.size < w4.heap.size → w4.heap[w.heap.size]? = some (.cells #[.int .i64 0, .string ⟨#[]⟩] 183 (0, 0)) →
      (((w4.setCell ⟨w.heap.size, 0, none⟩ (.int .i64 c.space)).setCell ⟨w.heap.size, 1, none⟩ (.string c.name)).alloc o).heap[w.heap.size]? = some (.cells #[.int .i64 c.space, .string c.name] 183 (0, 0)) ∧
      Below w.heap.size w (((w4.setCell ⟨w.heap.size, 0, none⟩ (.int .i64 c.space)).setCell ⟨w.heap.size, 1, none⟩ (.string c.name)).alloc o) := by
    intro w4 c o b5 hlt hblk
    refine ⟨(Below.heap_alloc _ _ _ (by simp; omega)).trans (two_block _ _ _ _ _ _ _ hblk), ?_⟩
    exact (b5.trans (((Mod.setCell (F := fun k => k = w.heap.size) w4 ⟨w.heap.size, 0, none⟩ _ rfl).trans (Mod.setCell _ ⟨w.heap.size, 1, none⟩ _ rfl)).below b5.size (fun k hk => by omega))).alloc (by simp; omega) _
  have HFIN := hide fin
  clear kb fin
  cases hk : keyAt ks id with
  | none =>
    have HN := hide (node_k_no (ha.below hb0) hk)
    have e1 : calOf ks id = cal0 := by unfold calOf; rw [elOf_none hk]; rfl
    have e2 : (elOf ks id).isSome = false := by rw [elOf_none hk]; rfl
    rw [e1, e2]
    clear ha hs hk e1 e2 hb0
    go_enter Tryz.func144, Tryz.ntmps144
    go_wp2_with (first | (go_at_call 48; refine (unhide HM).mono ?_; rintro e w' ⟨rfl, rfl⟩) | (go_at_call 14; refine (unhide HN).mono ?_; rintro e w4 ⟨rfl, hb4⟩; obtain ⟨kb1, kb2, kb3⟩ := (unhide HKB) w4 hb4; have k0 : w4.cell? ⟨w.heap.size, 0, none⟩ = some (.int .i64 0) := (by simp [World.cell?, kb1]); have k1 : w4.cell? ⟨w.heap.size, 1, none⟩ = some (.string ⟨#[]⟩) := (by simp [World.cell?, kb1]); have f0 : w4.frozen? ⟨w.heap.size, 0, none⟩ = false := (by simp [World.frozen?, kb1]); have f1 : w4.frozen? ⟨w.heap.size, 1, none⟩ = false := (by simp [World.frozen?, kb1]); have kne : ¬ w.heap.size = w4.heap.size := (by omega); have kne2 : ¬ w4.heap.size = w.heap.size := (by omega); have klt : w.heap.size < w4.heap.size := (by omega); have HB1 := hide kb1; have HB2 := hide kb2; have HB3 := hide kb3; unfold nodeZ; clear hb4 kb1 kb2 kb3))
    have R := fun c o => (unhide HFIN) w4 c o (unhide HB3) (unhide HB2) (unhide HB1)
    exact bodyPost_ret (v := .tuple #[cal0.agg, .bool false]) (look_ret _ w.heap.size cal0 (R cal0 _).1 _ _ rfl rfl) rfl ⟨rfl, (R cal0 _).2⟩
  | some q =>
    have HN := hide (node_k (ha.below hb0) hk)
    have e0 := elOf_key hk
    obtain ⟨qk, qs, qn⟩ := q
    by_cases hq1 : qk = 1
    · subst hq1
      have e1 : calOf ks id = ⟨qs, qn⟩ := by unfold calOf; rw [e0]; rfl
      have e2 : (elOf ks id).isSome = true := by rw [e0]; rfl
      rw [e1, e2]
      clear ha hs hk e0 e1 e2 hb0
      go_enter Tryz.func144, Tryz.ntmps144
      go_wp2_with (first | (go_at_call 48; refine (unhide HM).mono ?_; rintro e w' ⟨rfl, rfl⟩) | (go_at_call 14; refine (unhide HN).mono ?_; rintro e w4 ⟨n, ao, mm, cc, rfl, hq, hb4⟩; obtain ⟨nk, nsp, nnm, nav, nda, nsy, npa, nfi, nla, npr, nne, nin, nat⟩ := n; obtain ⟨kb1, kb2, kb3⟩ := (unhide HKB) w4 hb4; have k0 : w4.cell? ⟨w.heap.size, 0, none⟩ = some (.int .i64 0) := (by simp [World.cell?, kb1]); have k1 : w4.cell? ⟨w.heap.size, 1, none⟩ = some (.string ⟨#[]⟩) := (by simp [World.cell?, kb1]); have f0 : w4.frozen? ⟨w.heap.size, 0, none⟩ = false := (by simp [World.frozen?, kb1]); have f1 : w4.frozen? ⟨w.heap.size, 1, none⟩ = false := (by simp [World.frozen?, kb1]); have kne : ¬ w.heap.size = w4.heap.size := (by omega); have kne2 : ¬ w4.heap.size = w.heap.size := (by omega); have klt : w.heap.size < w4.heap.size := (by omega); have HB1 := hide kb1; have HB2 := hide kb2; have HB3 := hide kb3; simp only [nodeV, NodeM.cells]; simp only [keyN, Key.mk.injEq] at hq; obtain ⟨rfl, rfl, rfl⟩ := hq;   clear hb4 kb1 kb2 kb3))
      have R := fun c o => (unhide HFIN) w4 c o (unhide HB3) (unhide HB2) (unhide HB1)
      exact bodyPost_ret (v := .tuple #[Cal.agg ⟨_, _⟩, .bool true]) (look_ret _ w.heap.size ⟨_, _⟩ (R ⟨_, _⟩ _).1 _ _ rfl rfl) rfl ⟨rfl, (R ⟨_, _⟩ _).2⟩
    · have e1 : calOf ks id = cal0 := by unfold calOf; rw [e0, if_neg hq1]; rfl
      have e2 : (elOf ks id).isSome = false := by rw [e0, if_neg hq1]; rfl
      rw [e1, e2]
      have hq1' : (qk != 1) = true := by simpa using hq1
      clear ha hs hk e0 e1 e2 hb0 hq1
      go_enter Tryz.func144, Tryz.ntmps144
      go_wp2_with (first | (go_at_call 48; refine (unhide HM).mono ?_; rintro e w' ⟨rfl, rfl⟩) | (go_at_call 14; refine (unhide HN).mono ?_; rintro e w4 ⟨n, ao, mm, cc, rfl, hq, hb4⟩; obtain ⟨nk, nsp, nnm, nav, nda, nsy, npa, nfi, nla, npr, nne, nin, nat⟩ := n; obtain ⟨kb1, kb2, kb3⟩ := (unhide HKB) w4 hb4; have k0 : w4.cell? ⟨w.heap.size, 0, none⟩ = some (.int .i64 0) := (by simp [World.cell?, kb1]); have k1 : w4.cell? ⟨w.heap.size, 1, none⟩ = some (.string ⟨#[]⟩) := (by simp [World.cell?, kb1]); have f0 : w4.frozen? ⟨w.heap.size, 0, none⟩ = false := (by simp [World.frozen?, kb1]); have f1 : w4.frozen? ⟨w.heap.size, 1, none⟩ = false := (by simp [World.frozen?, kb1]); have kne : ¬ w.heap.size = w4.heap.size := (by omega); have kne2 : ¬ w4.heap.size = w.heap.size := (by omega); have klt : w.heap.size < w4.heap.size := (by omega); have HB1 := hide kb1; have HB2 := hide kb2; have HB3 := hide kb3; simp only [nodeV, NodeM.cells]; simp only [keyN, Key.mk.injEq] at hq; obtain ⟨rfl, rfl, rfl⟩ := hq;   clear hb4 kb1 kb2 kb3))
      have R := fun c o => (unhide HFIN) w4 c o (unhide HB3) (unhide HB2) (unhide HB1)
      exact bodyPost_ret (v := .tuple #[cal0.agg, .bool false]) (look_ret _ w.heap.size cal0 (R cal0 _).1 _ _ rfl rfl) rfl ⟨rfl, (R cal0 _).2⟩
end
end Go.Proofs.YtmkdnmkckipnaaaGreat
/-
  A stack of package stack: New, elements pushed, popped, put in, swapped and taken out.
-/
namespace Go.Proofs.YtmkdnmkckipnaaaGreat
open Go.RowKit

def enterE (ks : List Key) (L : List Int) (id : Int) : Int := if (elOf ks id).isSome then (if id ∈ L then 1 else 0) else 6
def pushL (ks : List Key) (L : List Int) (id : Int) : List Int := if enterE ks L id = 0 then L ++ [id] else L
def popL (L : List Int) : List Int := L.take (L.length - 1)
def removeE (L : List Int) (id : Int) : Int := if id ∈ L then 0 else 6
def removeL (L : List Int) (id : Int) : List Int := if id ∈ L then L.take (L.idxOf id) ++ L.drop (L.idxOf id + 1) else L
def putE (ks : List Key) (L : List Int) (i id : Int) : Int := if enterE ks L id = 0 then (if i < 0 ∨ (L.length : Int) < i then 1 else 0) else enterE ks L id
def putL (ks : List Key) (L : List Int) (i id : Int) : List Int := if putE ks L i id = 0 then L.take i.toNat ++ id :: L.drop i.toNat else L
def swapE (ks : List Key) (L : List Int) (old id : Int) : Int := if old ∈ L then enterE ks L id else 6
def swapL (ks : List Key) (L : List Int) (old id : Int) : List Int := if swapE ks L old id = 0 then L.set (L.idxOf old) id else L

section
variable {w : World} {base bK bA : Nat} {ks : List Key} {L : List Int} {F FA : Nat → Prop}

theorem Live.mk' (ha : ArK w base bA ks FA) (hs : StkS w base bK bA L F) : Live w base bK bA ks L := ⟨⟨FA, ha⟩, ⟨F, hs⟩⟩
theorem Live.few (h : Live w base bK bA ks L) (hg : Good ks L) : L.length ≤ 32768 := by
  obtain ⟨⟨FA, ha⟩, _⟩ := h
  exact Nat.le_trans hg.len ha.most.1

theorem has_s (h : Live w base bK bA ks L) (id : Int) : Calls Tryz.prog 113 #[.pointer (some ⟨bK, 0, none⟩), .int .i64 id] w fun e w' =>
    e = .returned (.bool (elOf ks id).isSome) ∧ Below w.heap.size w w' := by
  have HL := hide (look_any h id)
  generalize calOf ks id = c at *
  generalize (elOf ks id).isSome = r at *
  clear h
  obtain ⟨cs, cn⟩ := c
  go_enter Tryz.func113, Tryz.ntmps113
  go_wp2_with (go_at_call 144; refine (unhide HL).mono ?_; rintro e w1 ⟨rfl, hb⟩; have HB := hide hb; clear hb; simp only [Cal.agg])
  go_ret
  exact ⟨rfl, (unhide HB).alloc (unhide HB).size _⟩

set_option maxHeartbeats 1000000 in
theorem enter_any (h : Live w base bK bA ks L) (hg : Good ks L) (id : Int) : Calls Tryz.prog 63 #[.pointer (some ⟨bK, 0, none⟩), .int .i64 id] w fun e w' =>
    e = .returned (.int .i64 (enterE ks L id)) ∧ Below w.heap.size w w' := by
  have hl := h.few hg
  have HL := hide (has_s h id)
  have HF : Hid (∀ w1, Below w.heap.size w w1 → Calls Tryz.prog 89 #[.pointer (some ⟨bK, 0, none⟩), .int .i64 id] w1 fun e w' => e = .returned (.int .i64 (findM L id)) ∧ w1 = w') := hide (fun w1 hb => by
    obtain ⟨_, F2, h2⟩ := h.below hb
    exact sfind_any h2 (by omega) hg.nodup id)
  obtain ⟨_, FS, bP, p, hs, rfl, _⟩ := h
  have HM := hide (made_s hs)
  unfold enterE
  clear hs hg hl
  cases he : (elOf ks id).isSome with
  | false =>
    rw [he] at HL
    go_enter Tryz.func63, Tryz.ntmps63
    go_wp2_with (first | (go_at_call 48; refine (unhide HM).mono ?_; rintro e w' ⟨rfl, rfl⟩) | (go_at_call 113; refine (unhide HL).mono ?_; rintro e w1 ⟨rfl, hb⟩; have HB := hide hb; clear hb))
    go_ret
    exact ⟨rfl, unhide HB⟩
  | true =>
    rw [he] at HL
    by_cases hm : id ∈ p.xs
    · obtain ⟨j, hj, _⟩ := findM_in hm
      rw [hj] at HF
      rw [if_pos rfl, if_pos hm]
      clear he hm hj
      have hz : (0 : Int) ≤ (j : Int) := by omega
      go_enter Tryz.func63, Tryz.ntmps63
      go_wp2_with (first | (go_at_call 48; refine (unhide HM).mono ?_; rintro e w' ⟨rfl, rfl⟩) | (go_at_call 113; refine (unhide HL).mono ?_; rintro e w1 ⟨rfl, hb⟩; have HB := hide hb; clear hb) | (go_at_call 89; refine ((unhide HF) w1 (unhide HB)).mono ?_; rintro e w' ⟨rfl, rfl⟩))
      go_ret
      exact ⟨rfl, unhide HB⟩
    · rw [findM_out hm] at HF
      rw [if_pos rfl, if_neg hm]
      clear he hm
      go_enter Tryz.func63, Tryz.ntmps63
      go_wp2_with (first | (go_at_call 48; refine (unhide HM).mono ?_; rintro e w' ⟨rfl, rfl⟩) | (go_at_call 113; refine (unhide HL).mono ?_; rintro e w1 ⟨rfl, hb⟩; have HB := hide hb; clear hb) | (go_at_call 89; refine ((unhide HF) w1 (unhide HB)).mono ?_; rintro e w' ⟨rfl, rfl⟩))
      go_ret
      exact ⟨rfl, unhide HB⟩

/-- The pile's pointer, in whatever world comes of it. -/
theorem StkS.open (h : StkS w base bK bA L F) : ∃ bP, ∀ w1, Below w.heap.size w w1 → w1.cell? ⟨bK, 1, none⟩ = some (.pointer (some ⟨bP, 0, none⟩)) ∧ ∃ p, p.xs = L ∧ PileAt w1 base bP p ∧ ∀ w' L', UpdP w1 w' base bP p L' → UpdS F w w' base bK bA L' := by
  obtain ⟨bP, p, h, rfl, hF⟩ := h
  refine ⟨bP, fun w1 hb => ⟨(h.below hb).cells.2, p, rfl, (h.below hb).pile, fun w' L' hu => ?_⟩⟩
  exact UpdS.after hb ((h.below hb).upd hF hu)

set_option maxHeartbeats 1000000 in
theorem spush_any (ha : ArK w base bA ks FA) (hs : StkS w base bK bA L F) (hg : Good ks L) (id : Int) : Calls Tryz.prog 20 #[.pointer (some ⟨bK, 0, none⟩), .int .i64 id] w fun e w' =>
    e = .returned (.int .i64 (enterE ks L id)) ∧ UpdS F w w' base bK bA (pushL ks L id) := by
  have hl := (Live.mk' ha hs).few hg
  have HE := hide (enter_any (Live.mk' ha hs) hg id)
  obtain ⟨bP, ho⟩ := hs.open
  have HO := hide ho
  have HS := hide hs
  have HLn := hide hl
  unfold pushL
  clear ha hs hg ho hl
  by_cases h0 : enterE ks L id = 0
  · rw [h0] at HE ⊢
    rw [if_pos rfl]
    clear h0
    go_enter Tryz.func20, Tryz.ntmps20
    go_wp2_with (first | (go_at_call 63; refine (unhide HE).mono ?_; rintro e w1 ⟨rfl, hb⟩; obtain ⟨hc1, p, hp, hpl, hup⟩ := (unhide HO) w1 hb; subst hp; have HPL := hide hpl; have HUP := hide hup; clear hb hpl hup) | (go_at_call 64; refine (push_any (unhide HPL) (by have := unhide HLn; omega) id).mono ?_; rintro e w2 ⟨rfl, hu⟩; have HU := hide ((unhide HUP) _ _ hu); clear hu))
    go_ret
    exact ⟨rfl, unhide HU⟩
  · rw [if_neg h0]
    have h0' : (enterE ks L id != 0) = true := by simpa using h0
    generalize enterE ks L id = r at *
    clear h0
    go_enter Tryz.func20, Tryz.ntmps20
    go_wp2_with (go_at_call 63; refine (unhide HE).mono ?_; rintro e w1 ⟨rfl, hb⟩; have HB := hide hb; clear hb)
    go_ret
    exact ⟨rfl, (unhide HS).upd (unhide HB)⟩
end
end Go.Proofs.YtmkdnmkckipnaaaGreat
/-
  A stack of package stack: New, elements popped, put in, swapped and taken out.
-/
namespace Go.Proofs.YtmkdnmkckipnaaaGreat
open Go.RowKit

theorem topM_nil : topM [] = -1 := rfl
theorem topM_of {L : List Int} (h : L ≠ []) : ∃ x, L[L.length - 1]? = some x ∧ topM L = x := by
  have hl := List.length_pos_iff.2 h
  refine ⟨L[L.length - 1], List.getElem?_eq_getElem (by omega), ?_⟩
  unfold topM
  rw [show ((L.length : Int) - 1) = ((L.length - 1 : Nat) : Int) by omega]
  exact atM_in (List.getElem?_eq_getElem (by omega))

section
variable {w : World} {base bK bA : Nat} {ks : List Key} {L : List Int} {F FA : Nat → Prop}

theorem Good.pos (hg : Good ks L) {x : Int} (hx : x ∈ L) : 0 ≤ x := by
  obtain ⟨i, rfl, _⟩ := elOf_nat (hg.el x hx)
  omega

set_option maxHeartbeats 2000000 in
theorem spop_any (hs : StkS w base bK bA L F) (hg : Good ks L) (hl : L.length ≤ 32768) : Calls Tryz.prog 38 #[.pointer (some ⟨bK, 0, none⟩)] w fun e w' =>
    e = .returned (.int .i64 (topM L)) ∧ UpdS F w w' base bK bA (popL L) := by
  have HT := hide (stop_any hs (by omega))
  by_cases h0 : L = []
  · subst h0
    rw [topM_nil] at HT ⊢
    have HS := hide hs
    clear hs hg hl
    go_enter Tryz.func38, Tryz.ntmps38
    go_wp2_with (go_at_call 83; refine (unhide HT).mono ?_; rintro e w1 ⟨rfl, rfl⟩)
    go_ret
    exact ⟨rfl, (unhide HS).upd (Below.refl _ _)⟩
  · obtain ⟨x, hx, ht⟩ := topM_of h0
    rw [ht] at HT ⊢
    have hpos := hg.pos (List.mem_of_getElem? hx)
    have hne : (x != -1) = true := by rw [bne_iff_ne]; omega
    have HLN : Hid (∀ w1, Below w.heap.size w w1 → Calls Tryz.prog 13 #[.pointer (some ⟨bK, 0, none⟩)] w1 fun e w' => e = .returned (.int .i64 L.length) ∧ w1 = w') := hide (fun w1 hb => slen_any (hs.below hb))
    obtain ⟨bP, ho⟩ := hs.open
    have HCUT : Hid (∀ w1, Below w.heap.size w w1 → Calls Tryz.prog 85 #[.pointer (some ⟨bP, 0, none⟩), .int .i64 (IntKind.i64.wrap ((L.length : Int) - 1))] w1 fun e w' => e = .returned (.tuple #[]) ∧ UpdS F w w' base bK bA (popL L)) := hide (fun w1 hb => by
      obtain ⟨_, p, hp, hpl, hup⟩ := ho w1 hb
      subst hp
      have hlen := List.length_pos_iff.2 h0
      rw [show IntKind.i64.wrap ((p.xs.length : Int) - 1) = ((p.xs.length - 1 : Nat) : Int) by rw [IntKind.wrap_i64]; omega]
      refine (cut_any hpl (by omega) (p.xs.length - 1) (by omega)).mono ?_
      rintro e w' ⟨rfl, hu⟩
      exact ⟨rfl, hup _ _ hu⟩)
    have hc := (ho w (Below.refl _ w)).1
    have hlz : (L.length : Int) ≤ 32768 := by omega
    have hlz1 : (1 : Int) ≤ (L.length : Int) := by have := List.length_pos_iff.2 h0; omega
    generalize L.length = n at *
    clear hs hg hl h0 hx ht hpos ho
    go_enter Tryz.func38, Tryz.ntmps38
    go_wp2_with (go_at_call 83; refine (unhide HT).mono ?_; rintro e w1 ⟨rfl, rfl⟩)
    go_region_with (first | (go_at_call 13; refine ((unhide HLN) _ (by first | exact Below.refl _ _ | exact (Below.refl _ _).drew | exact below_dn (Below.refl _ _) _ | exact (Below.refl _ _).drew.drew)).mono ?_; rintro e w1 ⟨rfl, rfl⟩) | (go_at_call 85; refine ((unhide HCUT) _ (by first | exact Below.refl _ _ | exact (Below.refl _ _).drew | exact below_dn (Below.refl _ _) _ | exact (Below.refl _ _).drew.drew)).mono ?_; rintro e w2 ⟨rfl, hu⟩; have HU := hide hu; clear hu))
    all_goals go_wp2
    all_goals go_ret
    all_goals exact ⟨rfl, unhide HU⟩

set_option maxHeartbeats 2000000 in
theorem sremove_any (hs : StkS w base bK bA L F) (hg : Good ks L) (hl : L.length ≤ 32768) (id : Int) : Calls Tryz.prog 81 #[.pointer (some ⟨bK, 0, none⟩), .int .i64 id] w fun e w' =>
    e = .returned (.int .i64 (removeE L id)) ∧ UpdS F w w' base bK bA (removeL L id) := by
  have HF := hide (sfind_any hs (by omega) hg.nodup id)
  obtain ⟨bP, ho⟩ := hs.open
  have HS := hide hs
  have HM : Hid (Calls Tryz.prog 48 #[.pointer (some ⟨bK, 0, none⟩)] w fun e w' => e = .returned (.bool true) ∧ w = w') := hide (by
    obtain ⟨bP, p, h, _⟩ := hs
    exact made_s h)
  obtain ⟨hc, p, rfl, hpl, hup⟩ := ho w (Below.refl _ w)
  have HUP := hide hup
  unfold removeE removeL
  by_cases hm : id ∈ p.xs
  · obtain ⟨j, hj, hj2, hj3⟩ := findM_in hm
    have hji : p.xs.idxOf id = j := idxOf_at hg.nodup hj2
    rw [if_pos hm, if_pos hm, hji]
    rw [hj] at HF
    have HR := hide (remove_any hpl (by omega) j hj3)
    have hz : (0 : Int) ≤ (j : Int) := by omega
    clear hs ho hpl hup hg hl hm hj hj2 hj3 hji
    go_enter Tryz.func81, Tryz.ntmps81
    go_wp2_with (first | (go_at_call 48; refine (unhide HM).mono ?_; rintro e w' ⟨rfl, rfl⟩) | (go_at_call 89; refine (unhide HF).mono ?_; rintro e w' ⟨rfl, rfl⟩) | (go_at_call 119; refine (unhide HR).mono ?_; rintro e w2 ⟨rfl, hu⟩; have HU := hide ((unhide HUP) _ _ hu); clear hu))
    go_ret
    exact ⟨rfl, unhide HU⟩
  · rw [if_neg hm, if_neg hm]
    rw [findM_out hm] at HF
    clear hs ho hpl hup hg hl hm
    go_enter Tryz.func81, Tryz.ntmps81
    go_wp2_with (first | (go_at_call 48; refine (unhide HM).mono ?_; rintro e w' ⟨rfl, rfl⟩) | (go_at_call 89; refine (unhide HF).mono ?_; rintro e w' ⟨rfl, rfl⟩))
    go_ret
    exact ⟨rfl, (unhide HS).upd (Below.refl _ _)⟩

set_option maxHeartbeats 2000000 in
theorem sput_any (ha : ArK w base bA ks FA) (hs : StkS w base bK bA L F) (hg : Good ks L) (i id : Int) : Calls Tryz.prog 192 #[.pointer (some ⟨bK, 0, none⟩), .int .i64 i, .int .i64 id] w fun e w' =>
    e = .returned (.int .i64 (putE ks L i id)) ∧ UpdS F w w' base bK bA (putL ks L i id) := by
  have hl := (Live.mk' ha hs).few hg
  have HE := hide (enter_any (Live.mk' ha hs) hg id)
  have HLN : Hid (∀ w1, Below w.heap.size w w1 → Calls Tryz.prog 13 #[.pointer (some ⟨bK, 0, none⟩)] w1 fun e w' => e = .returned (.int .i64 L.length) ∧ w1 = w') := hide (fun w1 hb => slen_any (hs.below hb))
  obtain ⟨bP, ho⟩ := hs.open
  have HO := hide ho
  have HS := hide hs
  have HLn := hide hl
  unfold putL putE
  clear ha hs hg ho hl
  by_cases h0 : enterE ks L id = 0
  · rw [h0] at HE ⊢
    simp only [if_true]
    clear h0
    by_cases hi : i < 0
    · rw [if_pos (.inl hi), if_neg (by decide)]
      go_enter Tryz.func192, Tryz.ntmps192
      go_wp2_with (go_at_call 63; refine (unhide HE).mono ?_; rintro e w1 ⟨rfl, hb⟩; have HB := hide hb; clear hb)
      go_ret
      exact ⟨rfl, (unhide HS).upd (unhide HB)⟩
    · by_cases hj : (L.length : Int) < i
      · rw [if_pos (.inr hj), if_neg (by decide)]
        generalize L.length = n at *
        go_enter Tryz.func192, Tryz.ntmps192
        go_wp2_with (first | (go_at_call 63; refine (unhide HE).mono ?_; rintro e w1 ⟨rfl, hb⟩; have HB := hide hb; clear hb) | (go_at_call 13; refine ((unhide HLN) w1 (unhide HB)).mono ?_; rintro e w' ⟨rfl, rfl⟩))
        go_ret
        exact ⟨rfl, (unhide HS).upd (unhide HB)⟩
      · rw [if_neg (by omega), if_pos rfl]
        obtain ⟨k, rfl⟩ : ∃ k : Nat, i = (k : Int) := ⟨i.toNat, by omega⟩
        rw [Int.toNat_natCast]
        have HK : Hid (k ≤ L.length) := hide (by omega)
        have hnl : ∃ n, L.length = n := ⟨_, rfl⟩
        obtain ⟨n, hn⟩ := hnl
        rw [hn] at HLN hj
        have HNN := hide hn
        clear hn
        go_enter Tryz.func192, Tryz.ntmps192
        go_wp2_with (first | (go_at_call 63; refine (unhide HE).mono ?_; rintro e w1 ⟨rfl, hb⟩; have HB := hide hb; obtain ⟨hc1, p, hp, hpl, hup⟩ := (unhide HO) w1 hb; subst hp; have HPL := hide hpl; have HUP := hide hup; clear hb hpl hup) | (go_at_call 13; refine ((unhide HLN) w1 (unhide HB)).mono ?_; rintro e w' ⟨rfl, rfl⟩) | (go_at_call 219; refine (put_any (unhide HPL) (by have := unhide HLn; omega) k (unhide HK) id).mono ?_; rintro e w2 ⟨rfl, hu⟩; have HU := hide ((unhide HUP) _ _ hu); clear hu))
        go_ret
        exact ⟨rfl, unhide HU⟩
  · rw [if_neg h0, if_neg h0]
    have h0' : (enterE ks L id != 0) = true := by simpa using h0
    generalize enterE ks L id = r at *
    clear h0
    go_enter Tryz.func192, Tryz.ntmps192
    go_wp2_with (go_at_call 63; refine (unhide HE).mono ?_; rintro e w1 ⟨rfl, hb⟩; have HB := hide hb; clear hb)
    go_ret
    exact ⟨rfl, (unhide HS).upd (unhide HB)⟩

set_option maxHeartbeats 2000000 in
theorem sswap_any (ha : ArK w base bA ks FA) (hs : StkS w base bK bA L F) (hg : Good ks L) (old id : Int) : Calls Tryz.prog 195 #[.pointer (some ⟨bK, 0, none⟩), .int .i64 old, .int .i64 id] w fun e w' =>
    e = .returned (.int .i64 (swapE ks L old id)) ∧ UpdS F w w' base bK bA (swapL ks L old id) := by
  have hl := (Live.mk' ha hs).few hg
  have HE := hide (enter_any (Live.mk' ha hs) hg id)
  have HF : Hid (∀ w1, Below w.heap.size w w1 → Calls Tryz.prog 89 #[.pointer (some ⟨bK, 0, none⟩), .int .i64 old] w1 fun e w' => e = .returned (.int .i64 (findM L old)) ∧ w1 = w') := hide (fun w1 hb => sfind_any (hs.below hb) (by omega) hg.nodup old)
  have HM : Hid (∀ w1, Below w.heap.size w w1 → Calls Tryz.prog 48 #[.pointer (some ⟨bK, 0, none⟩)] w1 fun e w' => e = .returned (.bool true) ∧ w1 = w') := hide (fun w1 hb => by
    obtain ⟨bP, p, h, _⟩ := hs.below hb
    exact made_s h)
  obtain ⟨bP, ho⟩ := hs.open
  have HO := hide ho
  have HS := hide hs
  have HND := hide hg.nodup
  unfold swapL swapE
  clear ha hs hg ho hl
  by_cases hm : old ∈ L
  · obtain ⟨j, hj, hj2, hj3⟩ := findM_in hm
    have hji : L.idxOf old = j := idxOf_at (unhide HND) hj2
    rw [if_pos hm, hji]
    rw [hj] at HF
    have hz : (0 : Int) ≤ (j : Int) := by omega
    have HJ := hide hj3
    clear hm hj hj2 hj3 hji
    by_cases h0 : enterE ks L id = 0
    · rw [h0] at HE ⊢
      simp only [if_true]
      clear h0
      go_enter Tryz.func195, Tryz.ntmps195
      go_wp2_with (first | (go_at_call 63; refine (unhide HE).mono ?_; rintro e w1 ⟨rfl, hb⟩; have HB := hide hb; obtain ⟨hc1, p, hp, hpl, hup⟩ := (unhide HO) w1 hb; subst hp; have HPL := hide hpl; have HUP := hide hup; clear hb hpl hup) | (go_at_call 89; refine ((unhide HF) w1 (unhide HB)).mono ?_; rintro e w' ⟨rfl, rfl⟩) | (go_at_call 48; refine ((unhide HM) w1 (unhide HB)).mono ?_; rintro e w' ⟨rfl, rfl⟩) | (go_at_call 220; refine (swap_any (unhide HPL) j (unhide HJ) id).mono ?_; rintro e w2 ⟨rfl, hu⟩; have HU := hide ((unhide HUP) _ _ hu); clear hu))
      go_ret
      exact ⟨rfl, unhide HU⟩
    · rw [if_neg h0]
      have h0' : (enterE ks L id != 0) = true := by simpa using h0
      generalize enterE ks L id = r at *
      clear h0
      go_enter Tryz.func195, Tryz.ntmps195
      go_wp2_with (first | (go_at_call 63; refine (unhide HE).mono ?_; rintro e w1 ⟨rfl, hb⟩; have HB := hide hb; clear hb) | (go_at_call 89; refine ((unhide HF) w1 (unhide HB)).mono ?_; rintro e w' ⟨rfl, rfl⟩) | (go_at_call 48; refine ((unhide HM) w1 (unhide HB)).mono ?_; rintro e w' ⟨rfl, rfl⟩))
      go_ret
      exact ⟨rfl, (unhide HS).upd (unhide HB)⟩
  · rw [if_neg hm, if_neg (by decide)]
    rw [findM_out hm] at HF
    generalize enterE ks L id = r at *
    clear hm
    go_enter Tryz.func195, Tryz.ntmps195
    go_wp2_with (first | (go_at_call 63; refine (unhide HE).mono ?_; rintro e w1 ⟨rfl, hb⟩; have HB := hide hb; clear hb) | (go_at_call 89; refine ((unhide HF) w1 (unhide HB)).mono ?_; rintro e w' ⟨rfl, rfl⟩) | (go_at_call 48; refine ((unhide HM) w1 (unhide HB)).mono ?_; rintro e w' ⟨rfl, rfl⟩))
    go_ret
    exact ⟨rfl, (unhide HS).upd (unhide HB)⟩

set_option maxHeartbeats 1000000 in
theorem snew_any (ha : ArK w base bA ks FA) (hb : base ≤ w.heap.size) : Calls Tryz.prog 23 #[.pointer (some ⟨bA, 0, none⟩)] w fun e w' =>
    ∃ bK F, e = .returned (.tuple #[.pointer (some ⟨bK, 0, none⟩), .int .i64 0]) ∧ StkS w' base bK bA [] F ∧ Below w.heap.size w w' ∧ ∀ k, F k → w.heap.size ≤ k := by
  have HL := hide (len_k ha)
  have hpos := ha.most.2
  have hz : ((ks.length : Int) == 0) = false := by rw [beq_eq_false_iff_ne]; omega
  have HB := hide hb
  generalize ks.length = n at *
  clear ha hb hpos
  go_enter Tryz.func23, Tryz.ntmps23
  go_wp2_with (go_at_call 12; refine (unhide HL).mono ?_; rintro e w1 ⟨rfl, rfl⟩)
  go_ret2
  have hb := unhide HB
  have h1 := heap_alloc_new w (.cells #[.slice none 0 0] 138)
  have h2 := heap_alloc_new (w.alloc (.cells #[.slice none 0 0] 138)) (.cells #[.pointer (some ⟨bA, 0, none⟩), .pointer (some ⟨w.heap.size, 0, none⟩)] 113)
  rw [World.size_alloc] at h2
  refine ⟨_, _, rfl, ⟨w.heap.size, ⟨none, 0, []⟩, ⟨h2, ⟨(Below.heap_alloc _ _ _ (by simp)).trans h1, PartAt.nil _ _ _, hb⟩, by omega⟩, rfl, fun k => Iff.rfl⟩, ((Below.refl _ w).alloc (Nat.le_refl _) _).alloc (by simp) _, ?_⟩
  rintro k (rfl | rfl | hk)
  · omega
  · omega
  · simp [PartM.own] at hk
end
end Go.Proofs.YtmkdnmkckipnaaaGreat
