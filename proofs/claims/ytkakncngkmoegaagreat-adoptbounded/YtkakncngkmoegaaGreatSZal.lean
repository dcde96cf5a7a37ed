/-
  What is kept of an element: newKnown. The stack's memo in memory: a row of what is kept of elements, grown by one, looked at. The stack's memo in memory: a place more, a place written. A stack of package stack in memory, beside its arena; its calls that only look at the numbers. A stack of package stack: what its elements are; what is kept of them, looked at. What is kept is told.
-/
import Derived.Test.YtkakncngkmoegaaGreatSZak
import Derived.Laws.Rows
import Derived.Test.YtkakncngkmoegaaGreatSZaj
namespace Go.Proofs.YtkakncngkmoegaaGreat
open Go.RowKit

/-- The borders known behind i rounds. -/
def bAt (c : Cal) (i j : Nat) : Bool := if j < i then borderM c j else false
def kRow (c : Cal) (i : Nat) : Array Value := #[.int .i64 c.space, .string c.name, .bool (bAt c i 0), .bool (bAt c i 1), .bool (bAt c i 2), .bool (bAt c i 3), .bool (bAt c i 4), .bool true]
def kV (c : Cal) : Value := .agg (kRow c 5)
def zRow : Array Value := #[.int .i64 0, .string ⟨#[]⟩, .bool false, .bool false, .bool false, .bool false, .bool false, .bool false]
theorem kRow_zero (c : Cal) : kRow c 0 = #[.int .i64 c.space, .string c.name, .bool false, .bool false, .bool false, .bool false, .bool false, .bool true] := rfl
theorem kRow_set (c : Cal) (i : Nat) (h : i < 5) : (kRow c i).setIfInBounds (2 + i) (.bool (borderM c i)) = kRow c (i + 1) := by
  rcases i with _ | _ | _ | _ | _ | i
  · simp [kRow, bAt]
  · simp [kRow, bAt]
  · simp [kRow, bAt]
  · simp [kRow, bAt]
  · simp [kRow, bAt]
  · omega

/-- The three blocks of newKnown behind i rounds. -/
structure Kn (w wr : World) (c : Cal) (i : Nat) : Prop where
  x : wr.heap[w.heap.size]? = some (.cells #[.int .i64 c.space, .string c.name] 185 (0, 0))
  r : wr.heap[w.heap.size + 1]? = some (.cells zRow 188 (0, 0))
  k : wr.heap[w.heap.size + 1 + 1]? = some (.cells (kRow c i) 188 (0, 0))
  bel : Below w.heap.size w wr
theorem Kn.start (w : World) (c : Cal) : Kn w (((w.alloc (.cells #[.int .i64 c.space, .string c.name] 185)).alloc (.cells zRow 188)).alloc (.cells (kRow c 0) 188)) c 0 := by
  have h0 := heap_alloc_new w (.cells #[.int .i64 c.space, .string c.name] 185)
  have h1 := heap_alloc_new (w.alloc (.cells #[.int .i64 c.space, .string c.name] 185)) (.cells zRow 188)
  have h2 := heap_alloc_new ((w.alloc (.cells #[.int .i64 c.space, .string c.name] 185)).alloc (.cells zRow 188)) (.cells (kRow c 0) 188)
  refine ⟨?_, ?_, ?_, below3 w _ _ _⟩
  · exact (Below.heap_alloc _ _ _ (by simp only [World.size_alloc]; omega)).trans ((Below.heap_alloc _ _ _ (by simp only [World.size_alloc]; omega)).trans h0)
  · exact (Below.heap_alloc _ _ _ (by simp only [World.size_alloc]; omega)).trans (by simpa using h1)
  · simpa using h2
theorem Kn.next {w wr w1 : World} {c : Cal} {i : Nat} (h : Kn w wr c i) (hi : i < 5) (hb : Below wr.heap.size wr w1) : Kn w (w1.setCell ⟨w.heap.size + 1 + 1, 2 + i, none⟩ (.bool (borderM c i))) c (i + 1) := by
  have l0 := lt_of_block h.x
  have l1 := lt_of_block h.r
  have l2 := lt_of_block h.k
  have hm : Mod (fun k => k = w.heap.size + 1 + 1) w1 (w1.setCell ⟨w.heap.size + 1 + 1, 2 + i, none⟩ (.bool (borderM c i))) := Mod.setCell _ _ _ rfl
  have e0 := (hb.block _ l0).trans h.x
  have e1 := (hb.block _ l1).trans h.r
  have e2 := (hb.block _ l2).trans h.k
  refine ⟨(hm.block _ (lt_of_block e0) (by omega)).trans e0, (hm.block _ (lt_of_block e1) (by omega)).trans e1, ?_, ?_⟩
  · have := heap_setCell_same w1 (w.heap.size + 1 + 1) (2 + i) _ _ (.bool (borderM c i)) e2
    rw [← kRow_set c i hi]
    simpa using this
  · have b1 := h.bel.trans (hb.mono h.bel.size)
    exact b1.trans (hm.below b1.size (fun k hk => by omega))
theorem Kn.facts {w wr w1 : World} {c : Cal} {i : Nat} (h : Kn w wr c i) (hb : Below wr.heap.size wr w1) : w1.cell? ⟨w.heap.size, 0, none⟩ = some (.int .i64 c.space) ∧ w1.cell? ⟨w.heap.size, 1, none⟩ = some (.string c.name) ∧ (i < 5 → ∃ u, w1.cell? ⟨w.heap.size + 1 + 1, 2 + i, none⟩ = some u) ∧ ∀ j : Nat, w1.frozen? ⟨w.heap.size + 1 + 1, j, none⟩ = false := by
  have e0 := (hb.block _ (lt_of_block h.x)).trans h.x
  have e2 := (hb.block _ (lt_of_block h.k)).trans h.k
  exact ⟨cell_row _ _ 0 _ _ _ e0, cell_row _ _ 1 _ _ _ e0, fun hi => ⟨_, (cell_row _ _ (2 + i) _ _ _ e2).trans (Array.getElem?_eq_getElem (by simp [kRow]; omega))⟩, fun j => by simp [World.frozen?, e2]⟩

theorem eight_block (w : World) (b : Nat) (v0 v1 v2 v3 v4 v5 v6 v7 x0 x1 x2 x3 x4 x5 x6 x7 : Value) (t : TypeId) (h : w.heap[b]? = some (.cells #[x0, x1, x2, x3, x4, x5, x6, x7] t (0, 0))) : ((((((((w.setCell ⟨b, 0, none⟩ v0).setCell ⟨b, 1, none⟩ v1).setCell ⟨b, 2, none⟩ v2).setCell ⟨b, 3, none⟩ v3).setCell ⟨b, 4, none⟩ v4).setCell ⟨b, 5, none⟩ v5).setCell ⟨b, 6, none⟩ v6).setCell ⟨b, 7, none⟩ v7).heap[b]? = some (.cells #[v0, v1, v2, v3, v4, v5, v6, v7] t (0, 0)) ∧ Mod (fun k => k = b) w ((((((((w.setCell ⟨b, 0, none⟩ v0).setCell ⟨b, 1, none⟩ v1).setCell ⟨b, 2, none⟩ v2).setCell ⟨b, 3, none⟩ v3).setCell ⟨b, 4, none⟩ v4).setCell ⟨b, 5, none⟩ v5).setCell ⟨b, 6, none⟩ v6).setCell ⟨b, 7, none⟩ v7) := by
  have h0 := heap_setCell_same _ b 0 _ t v0 h
  have h1 := heap_setCell_same _ b 1 _ t v1 h0
  have h2 := heap_setCell_same _ b 2 _ t v2 h1
  have h3 := heap_setCell_same _ b 3 _ t v3 h2
  have h4 := heap_setCell_same _ b 4 _ t v4 h3
  have h5 := heap_setCell_same _ b 5 _ t v5 h4
  have h6 := heap_setCell_same _ b 6 _ t v6 h5
  have h7 := heap_setCell_same _ b 7 _ t v7 h6
  refine ⟨by simpa using h7, ?_⟩
  exact ((((((((Mod.setCell (F := fun k => k = b) _ ⟨b, 0, none⟩ _ rfl).trans (Mod.setCell (F := fun k => k = b) _ ⟨b, 1, none⟩ _ rfl)).trans (Mod.setCell (F := fun k => k = b) _ ⟨b, 2, none⟩ _ rfl)).trans (Mod.setCell (F := fun k => k = b) _ ⟨b, 3, none⟩ _ rfl)).trans (Mod.setCell (F := fun k => k = b) _ ⟨b, 4, none⟩ _ rfl)).trans (Mod.setCell (F := fun k => k = b) _ ⟨b, 5, none⟩ _ rfl)).trans (Mod.setCell (F := fun k => k = b) _ ⟨b, 6, none⟩ _ rfl)).trans (Mod.setCell (F := fun k => k = b) _ ⟨b, 7, none⟩ _ rfl))

set_option maxHeartbeats 2000000 in
theorem newKnown_any (c : Cal) (w : World) : Calls Tryz.prog 180 #[c.agg] w fun e w' => e = .returned (kV c) ∧ Below w.heap.size w w' := by
  have HS := hide (Kn.start w c)
  rw [kRow_zero] at HS
  unfold zRow at HS
  obtain ⟨cs, cn⟩ := c
  simp only [Cal.agg] at *
  go_enter Tryz.func180, Tryz.ntmps180
  obtain ⟨p0, p1, _, _⟩ := (unhide HS).facts (Below.refl _ _)
  simp only at p0 p1
  go_wp2
  clear p0 p1
  go_loopg [4, 7] 5 (fun g _ s7 wr => ∃ i : Nat, i + g = 5 ∧ s7 = .int .i64 (i : Int) ∧ Kn w wr ⟨cs, cn⟩ i)
  case atStart => exact ⟨0, rfl, rfl, unhide HS⟩
  case round =>
    obtain ⟨i, hig, rfl, hk⟩ := hrel
    have HK := hide hk
    obtain ⟨q0, q1, qk, qf⟩ := hk.facts (Below.refl _ _)
    simp only at q0 q1
    clear HS hk
    by_cases hi : i < 5
    · have hiz : (i : Int) < 5 := by omega
      have hi0 : (0 : Int) ≤ (i : Int) := by omega
      have HI := hide hi
      have HIG := hide hig
      clear qk qf hi hig
      have HB := hide (fun W => isBorder_any ⟨cs, cn⟩ (i : Int) hi0 (by omega) W)
      simp only [Cal.agg] at HB
      go_wp2_with (go_at_call 203; refine ((unhide HB) _).mono ?_; rintro e w1 ⟨rfl, hb⟩; have HN := hide ((unhide HK).next (unhide HI) hb); obtain ⟨_, _, rk, rf⟩ := (unhide HK).facts hb; obtain ⟨u, ru⟩ := rk (unhide HI); have rf := rf (2 + i); clear rk hb)
      go_roundg (gk - 1)
      case measure => have := unhide HIG; omega
      case rel => exact ⟨i + 1, by have := unhide HIG; omega, by go_num, unhide HN⟩
    · obtain rfl : i = 5 := by omega
      clear qk qf hi hig
      have hk := (unhide HK).k
      have hr := (unhide HK).r
      have hbel := (unhide HK).bel
      have hlt := lt_of_block hr
      have hkv : kV ⟨cs, cn⟩ = .agg #[.int .i64 cs, .string cn, .bool (bAt ⟨cs, cn⟩ 5 0), .bool (bAt ⟨cs, cn⟩ 5 1), .bool (bAt ⟨cs, cn⟩ 5 2), .bool (bAt ⟨cs, cn⟩ 5 3), .bool (bAt ⟨cs, cn⟩ 5 4), .bool true] := rfl
      unfold kRow at hk
      unfold zRow at hr
      clear HK
      generalize bAt ⟨cs, cn⟩ 5 0 = e0 at *
      generalize bAt ⟨cs, cn⟩ 5 1 = e1 at *
      generalize bAt ⟨cs, cn⟩ 5 2 = e2 at *
      generalize bAt ⟨cs, cn⟩ 5 3 = e3 at *
      generalize bAt ⟨cs, cn⟩ 5 4 = e4 at *
      have HKV := hide hkv
      clear hkv
      have hall := eight_block wr (w.heap.size + 1) (.int .i64 cs) (.string cn) (.bool e0) (.bool e1) (.bool e2) (.bool e3) (.bool e4) (.bool true) _ _ _ _ _ _ _ _ 188 hr
      have HALL := hide hall
      have HBEL := hide hbel
      have z0 := cell_row _ _ 0 _ _ _ hk
      have z1 := cell_row _ _ 1 _ _ _ hk
      have z2 := cell_row _ _ 2 _ _ _ hk
      have z3 := cell_row _ _ 3 _ _ _ hk
      have z4 := cell_row _ _ 4 _ _ _ hk
      have z5 := cell_row _ _ 5 _ _ _ hk
      have z6 := cell_row _ _ 6 _ _ _ hk
      have z7 := cell_row _ _ 7 _ _ _ hk
      have y0 := cell_row _ _ 0 _ _ _ hr
      have y1 := cell_row _ _ 1 _ _ _ hr
      have y2 := cell_row _ _ 2 _ _ _ hr
      have y3 := cell_row _ _ 3 _ _ _ hr
      have y4 := cell_row _ _ 4 _ _ _ hr
      have y5 := cell_row _ _ 5 _ _ _ hr
      have y6 := cell_row _ _ 6 _ _ _ hr
      have y7 := cell_row _ _ 7 _ _ _ hr
      have yf : ∀ j : Nat, wr.frozen? ⟨w.heap.size + 1, j, none⟩ = false := fun j => by simp [World.frozen?, hr]
      simp only [List.getElem?_toArray, List.getElem?_cons_zero, List.getElem?_cons_succ] at z0 z1 z2 z3 z4 z5 z6 z7 y0 y1 y2 y3 y4 y5 y6 y7
      have yf0 := yf 0
      have yf1 := yf 1
      have yf2 := yf 2
      have yf3 := yf 3
      have yf4 := yf 4
      have yf5 := yf 5
      have yf6 := yf 6
      have yf7 := yf 7
      clear hk hr hbel hlt hall yf
      go_wp2
      rw [unhide HKV]
      exact bodyPost_ret (results_cell_row Tryz.results180 _ _ (w.heap.size + 1) _ _ _ _ rfl (unhide HALL).1 Tryz.underlying188 rfl (by kernel_rfl)) rfl ⟨rfl, (unhide HBEL).trans ((unhide HALL).2.below (unhide HBEL).size (fun k hk => by omega))⟩
end Go.Proofs.YtkakncngkmoegaaGreat

namespace Go.Proofs.YtkakncngkmoegaaGreat
open Go.RowKit

def eCells : Option Cal → List Value
  | none => zRow.toList
  | some c => (kRow c 5).toList
theorem eCells_len (x : Option Cal) : (eCells x).length = 8 := by cases x <;> rfl
def mRow (l : List (Option Cal)) : List Value := l.flatMap eCells
theorem mRow_len (l : List (Option Cal)) : (mRow l).length = l.length * 8 := by
  induction l with
  | nil => rfl
  | cons x l ih => rw [mRow, List.flatMap_cons, List.length_append, eCells_len, ← mRow, ih, List.length_cons]; omega
theorem mRow_get (l : List (Option Cal)) (i j : Nat) (hj : j < 8) {x : Option Cal} (hx : l[i]? = some x) : (mRow l)[i * 8 + j]? = (eCells x)[j]? := by
  induction l generalizing i with
  | nil => simp at hx
  | cons y l ih =>
    cases i with
    | zero =>
      simp at hx; subst hx
      rw [mRow, List.flatMap_cons, List.getElem?_append_left (by rw [eCells_len]; omega)]
      congr 1
      omega
    | succ i =>
      rw [mRow, List.flatMap_cons, List.getElem?_append_right (by rw [eCells_len]; omega), eCells_len]
      have e : (i + 1) * 8 + j - 8 = i * 8 + j := by omega
      rw [e]
      exact ih i (by simpa using hx)

/-- The memo: its header at bM, its row v. -/
structure KnM (w : World) (base bM : Nat) (v : Value) (ms : List (Option Cal)) : Prop where
  box : w.heap[bM]? = some (.cells #[v] 140 (0, 0))
  own : w.ownsRow base 188 8 v ms.length (mRow ms)
  lo : base ≤ bM
def footM (bM : Nat) (v : Value) (k : Nat) : Prop := k = bM ∨ v.ownBlock = some k

section
variable {w w' w1 : World} {base bM : Nat} {v v' : Value} {ms : List (Option Cal)} {F G : Nat → Prop}
theorem KnM.lt (h : KnM w base bM v ms) {k : Nat} (hk : footM bM v k) : base ≤ k ∧ k < w.heap.size := by
  rcases hk with rfl | hk
  · exact ⟨h.lo, lt_of_block h.box⟩
  · exact h.own.lt k hk
theorem KnM.cells (h : KnM w base bM v ms) : w.cell? ⟨bM, 0, none⟩ = some v ∧ w.frozen? ⟨bM, 0, none⟩ = false := by
  have hb := h.box
  exact ⟨by simp [World.cell?, hb], by simp [World.frozen?, hb]⟩
theorem KnM.mod (h : KnM w base bM v ms) (hm : Mod G w w') (hG : ∀ k, footM bM v k → ¬ G k) : KnM w' base bM v ms :=
  ⟨(hm.block bM (lt_of_block h.box) (hG bM (.inl rfl))).trans h.box, ownsRow_kept h.own (fun k hk => hm.block k (h.own.lt k hk).2 (hG k (.inr hk))), h.lo⟩
theorem KnM.below (h : KnM w base bM v ms) (hb : Below w.heap.size w w') : KnM w' base bM v ms := h.mod (Mod.of_below (F := fun _ => False) hb) (fun _ _ e => e)
theorem KnM.val (h : KnM w base bM v ms) : (v = .slice none 0 0 ∧ ms = []) ∨ ∃ g cap, v = .slice (some ⟨g, 0, none⟩) ms.length cap := by
  rcases h.own.2 with ⟨e, h0⟩ | ⟨g, cap, _, e, _⟩
  · exact .inl ⟨e, List.eq_nil_of_length_eq_zero h0⟩
  · exact .inr ⟨g, cap, e⟩
theorem KnM.len (h : KnM w base bM v ms) : ∃ a cap, v = .slice a ms.length cap := by
  rcases h.val with ⟨e, rfl⟩ | ⟨g, cap, e⟩
  · exact ⟨none, 0, e⟩
  · exact ⟨_, cap, e⟩
/-- What is kept at a place. -/
theorem KnM.at (h : KnM w base bM v ms) {i : Nat} {x : Option Cal} (hi : ms[i]? = some x) : ∃ g cap, v = .slice (some ⟨g, 0, none⟩) ms.length cap ∧ ∀ j, j < 8 → w.cell? ⟨g, i * 8 + j, none⟩ = (eCells x)[j]? := by
  have hlt := (List.getElem?_eq_some_iff.1 hi).1
  rcases h.val with ⟨_, h0⟩ | ⟨g, cap, e⟩
  · subst h0; simp at hi
  · subst e
    refine ⟨g, cap, rfl, fun j hj => ?_⟩
    rw [h.own.cellAt (i * 8 + j) (by omega), mRow_get ms i j hj hi]
end
end Go.Proofs.YtkakncngkmoegaaGreat

namespace Go.Proofs.YtkakncngkmoegaaGreat
open Go.RowKit

theorem own_set {w : World} {base : Nat} {e : TypeId} {size g n cap k : Nat} {xs : List Value} (h : w.ownsRow base e size (.slice (some ⟨g, 0, none⟩) n cap) n xs) (u : Value) : (w.setCell ⟨g, k, none⟩ u).ownsRow base e size (.slice (some ⟨g, 0, none⟩) n cap) n (xs.set k u) := by
  obtain ⟨hlen, h⟩ := h
  refine ⟨by rw [List.length_set]; exact hlen, .inr ?_⟩
  rcases h with ⟨e0, _⟩ | ⟨g2, cap2, cur, e0, hb, hblk, hn, hc, hs, ht⟩
  · cases e0
  · cases e0
    refine ⟨g, cap, cur.setIfInBounds k u, rfl, hb, heap_setCell_same w g k cur _ u hblk, hn, hc, by rw [Array.size_setIfInBounds]; exact hs, ?_⟩
    rw [Array.toList_setIfInBounds, List.take_set, ht]
theorem mRow_cons (y : Option Cal) (l : List (Option Cal)) : mRow (y :: l) = eCells y ++ mRow l := by simp [mRow]
theorem set_behind (y : Option Cal) (r : List Value) (i : Nat) (u : Value) : (eCells y ++ r).set (8 + i) u = eCells y ++ r.set i u := by
  rw [List.set_append_right _ _ (by rw [eCells_len]; omega), eCells_len]
  congr 2
  omega
/-- The eight cells of a place written one behind the other. -/
def set8 (xs : List Value) (o : Nat) (v0 v1 v2 v3 v4 v5 v6 v7 : Value) : List Value := (((((((xs.set o v0).set (o + 1) v1).set (o + 2) v2).set (o + 3) v3).set (o + 4) v4).set (o + 5) v5).set (o + 6) v6).set (o + 7) v7
theorem mRow_set (c : Cal) : ∀ (ms : List (Option Cal)) (i : Nat), i < ms.length → set8 (mRow ms) (i * 8) (.int .i64 c.space) (.string c.name) (.bool (bAt c 5 0)) (.bool (bAt c 5 1)) (.bool (bAt c 5 2)) (.bool (bAt c 5 3)) (.bool (bAt c 5 4)) (.bool true) = mRow (ms.set i (some c))
  | [], i, h => by simp at h
  | y :: l, 0, _ => by
    rw [List.set_cons_zero, mRow_cons, mRow_cons]
    obtain ⟨y0, y1, y2, y3, y4, y5, y6, y7, e⟩ : ∃ y0 y1 y2 y3 y4 y5 y6 y7, eCells y = [y0, y1, y2, y3, y4, y5, y6, y7] := by
      cases y
      · exact ⟨_, _, _, _, _, _, _, _, rfl⟩
      · exact ⟨_, _, _, _, _, _, _, _, rfl⟩
    rw [e]
    rfl
  | y :: l, i + 1, h => by
    have ih := mRow_set c l i (by simpa using h)
    rw [List.set_cons_succ, mRow_cons, mRow_cons, ← ih]
    have e : ∀ j, (i + 1) * 8 + j = 8 + (i * 8 + j) := fun j => by omega
    have e0 : (i + 1) * 8 = 8 + i * 8 := by omega
    unfold set8
    rw [e 1, e 2, e 3, e 4, e 5, e 6, e 7, e0]
    simp only [set_behind]

section
variable {w w1 : World} {base bM : Nat} {v v' : Value} {ms : List (Option Cal)}
/-- A place more. -/
theorem KnM.grow (h : KnM w base bM v ms) (hown : w1.ownsRow base 188 8 v' (ms.length + 1) (mRow ms ++ zRow.toList)) (hgrow : w.grownBy w1 v.ownBlock) (hv : ∀ k, v'.ownBlock = some k → v.ownBlock = some k ∨ w.heap.size ≤ k) :
    KnM (w1.setCell ⟨bM, 0, none⟩ v') base bM v' (ms ++ [none]) ∧ Mod (footM bM v) w (w1.setCell ⟨bM, 0, none⟩ v') ∧ ∀ k, footM bM v' k → footM bM v k ∨ w.heap.size ≤ k := by
  have hlt := lt_of_block h.box
  have hne : ∀ k, v.ownBlock = some k → k ≠ bM := fun k hk e => by
    obtain ⟨cur, hc⟩ := ownsRow_block h.own hk
    rw [e, h.box] at hc
    cases hc
  have hm1 : Mod (fun k => v.ownBlock = some k) w w1 := Mod.grown hgrow (fun k e => e)
  have hb1 := (hm1.block bM hlt (fun e => hne _ e rfl)).trans h.box
  have hne' : ∀ k, v'.ownBlock = some k → k ≠ bM := fun k hk => by
    rcases hv k hk with e | e
    · exact hne k e
    · omega
  refine ⟨⟨?_, ?_, h.lo⟩, (hm1.mono (fun k _ e => .inr e)).trans (Mod.setCell _ _ _ (.inl rfl)), ?_⟩
  · have := heap_setCell_same w1 bM 0 #[v] 140 v' hb1
    simpa using this
  · have e : mRow (ms ++ [none]) = mRow ms ++ zRow.toList := by simp [mRow, eCells]
    rw [List.length_append, e]
    exact ownsRow_setCell_other hown (fun e => hne' _ e rfl) _
  · rintro k (rfl | hk)
    · exact .inl (.inl rfl)
    · exact (hv k hk).imp (fun e => .inr e) id
/-- A place written. -/
theorem KnM.poke {g cap : Nat} (h : KnM w base bM (.slice (some ⟨g, 0, none⟩) ms.length cap) ms) (c : Cal) {i : Nat} (hi : i < ms.length) :
    KnM ((((((((w.setCell ⟨g, i * 8, none⟩ (.int .i64 c.space)).setCell ⟨g, i * 8 + 1, none⟩ (.string c.name)).setCell ⟨g, i * 8 + 2, none⟩ (.bool (bAt c 5 0))).setCell ⟨g, i * 8 + 3, none⟩ (.bool (bAt c 5 1))).setCell ⟨g, i * 8 + 4, none⟩ (.bool (bAt c 5 2))).setCell ⟨g, i * 8 + 5, none⟩ (.bool (bAt c 5 3))).setCell ⟨g, i * 8 + 6, none⟩ (.bool (bAt c 5 4))).setCell ⟨g, i * 8 + 7, none⟩ (.bool true)) base bM (.slice (some ⟨g, 0, none⟩) ms.length cap) (ms.set i (some c)) ∧ Mod (fun k => k = g) w ((((((((w.setCell ⟨g, i * 8, none⟩ (.int .i64 c.space)).setCell ⟨g, i * 8 + 1, none⟩ (.string c.name)).setCell ⟨g, i * 8 + 2, none⟩ (.bool (bAt c 5 0))).setCell ⟨g, i * 8 + 3, none⟩ (.bool (bAt c 5 1))).setCell ⟨g, i * 8 + 4, none⟩ (.bool (bAt c 5 2))).setCell ⟨g, i * 8 + 5, none⟩ (.bool (bAt c 5 3))).setCell ⟨g, i * 8 + 6, none⟩ (.bool (bAt c 5 4))).setCell ⟨g, i * 8 + 7, none⟩ (.bool true)) := by
  have hne : g ≠ bM := fun e => by
    obtain ⟨cur, hc⟩ := ownsRow_block h.own (k := g) rfl
    rw [e, h.box] at hc
    cases hc
  have hm : Mod (fun k => k = g) w ((((((((w.setCell ⟨g, i * 8, none⟩ (.int .i64 c.space)).setCell ⟨g, i * 8 + 1, none⟩ (.string c.name)).setCell ⟨g, i * 8 + 2, none⟩ (.bool (bAt c 5 0))).setCell ⟨g, i * 8 + 3, none⟩ (.bool (bAt c 5 1))).setCell ⟨g, i * 8 + 4, none⟩ (.bool (bAt c 5 2))).setCell ⟨g, i * 8 + 5, none⟩ (.bool (bAt c 5 3))).setCell ⟨g, i * 8 + 6, none⟩ (.bool (bAt c 5 4))).setCell ⟨g, i * 8 + 7, none⟩ (.bool true)) := ((((((((Mod.setCell (F := fun k => k = g) _ ⟨g, i * 8, none⟩ _ rfl).trans (Mod.setCell (F := fun k => k = g) _ ⟨g, i * 8 + 1, none⟩ _ rfl)).trans (Mod.setCell (F := fun k => k = g) _ ⟨g, i * 8 + 2, none⟩ _ rfl)).trans (Mod.setCell (F := fun k => k = g) _ ⟨g, i * 8 + 3, none⟩ _ rfl)).trans (Mod.setCell (F := fun k => k = g) _ ⟨g, i * 8 + 4, none⟩ _ rfl)).trans (Mod.setCell (F := fun k => k = g) _ ⟨g, i * 8 + 5, none⟩ _ rfl)).trans (Mod.setCell (F := fun k => k = g) _ ⟨g, i * 8 + 6, none⟩ _ rfl)).trans (Mod.setCell (F := fun k => k = g) _ ⟨g, i * 8 + 7, none⟩ _ rfl))
  have o0 := own_set (k := i * 8) h.own (.int .i64 c.space)
  have o1 := own_set (k := i * 8 + 1) o0 (.string c.name)
  have o2 := own_set (k := i * 8 + 2) o1 (.bool (bAt c 5 0))
  have o3 := own_set (k := i * 8 + 3) o2 (.bool (bAt c 5 1))
  have o4 := own_set (k := i * 8 + 4) o3 (.bool (bAt c 5 2))
  have o5 := own_set (k := i * 8 + 5) o4 (.bool (bAt c 5 3))
  have o6 := own_set (k := i * 8 + 6) o5 (.bool (bAt c 5 4))
  have o7 := own_set (k := i * 8 + 7) o6 (.bool true)
  have e := mRow_set c ms i hi
  unfold set8 at e
  rw [e] at o7
  refine ⟨⟨(hm.block bM (lt_of_block h.box) (fun e => hne e.symm)).trans h.box, ?_, h.lo⟩, hm⟩
  rw [List.length_set]
  exact o7
end
end Go.Proofs.YtkakncngkmoegaaGreat

namespace Go.Proofs.YtkakncngkmoegaaGreat
open Go.RowKit

/-- A stack at block bK of the arena at bA: its pile at bP, its memo at bM. -/
structure StkAt (w : World) (base bK bP bM bA : Nat) (p : PartM) (v : Value) (ms : List (Option Cal)) : Prop where
  box : w.heap[bK]? = some (.cells #[.pointer (some ⟨bA, 0, none⟩), .pointer (some ⟨bP, 0, none⟩), .pointer (some ⟨bM, 0, none⟩)] 114 (0, 0))
  pile : PileAt w base bP p
  memo : KnM w base bM v ms
  apart : ∀ k, footP bP p k → ¬ footM bM v k
  lo : base ≤ bK

def footS (bK bP bM : Nat) (p : PartM) (v : Value) (k : Nat) : Prop := k = bK ∨ footP bP p k ∨ footM bM v k

section
variable {w w' : World} {base bK bP bM bA : Nat} {p : PartM} {v : Value} {ms : List (Option Cal)} {F G : Nat → Prop}
theorem StkAt.cells (h : StkAt w base bK bP bM bA p v ms) : w.cell? ⟨bK, 0, none⟩ = some (.pointer (some ⟨bA, 0, none⟩)) ∧ w.cell? ⟨bK, 1, none⟩ = some (.pointer (some ⟨bP, 0, none⟩)) ∧ w.cell? ⟨bK, 2, none⟩ = some (.pointer (some ⟨bM, 0, none⟩)) := by
  have hb := h.box
  exact ⟨by simp [World.cell?, hb], by simp [World.cell?, hb], by simp [World.cell?, hb]⟩
theorem StkAt.lt (h : StkAt w base bK bP bM bA p v ms) : bK < w.heap.size := lt_of_block h.box
theorem StkAt.ne (h : StkAt w base bK bP bM bA p v ms) : ¬ footP bP p bK := by
  rintro (e | e)
  · subst e
    have := h.pile.box
    rw [h.box] at this
    cases this
  · obtain ⟨_, _, cu, hc⟩ := h.pile.part.own_lt e
    rw [h.box] at hc
    cases hc
theorem StkAt.neM (h : StkAt w base bK bP bM bA p v ms) : ¬ footM bM v bK := by
  rintro (e | e)
  · subst e
    have := h.memo.box
    rw [h.box] at this
    cases this
  · obtain ⟨cu, hc⟩ := ownsRow_block h.memo.own e
    rw [h.box] at hc
    cases hc
theorem StkAt.foot_lt (h : StkAt w base bK bP bM bA p v ms) {k : Nat} (hk : footS bK bP bM p v k) : base ≤ k ∧ k < w.heap.size := by
  rcases hk with rfl | hk | hk
  · exact ⟨h.lo, h.lt⟩
  · exact h.pile.foot_lt hk
  · exact h.memo.lt hk
theorem StkAt.mod (h : StkAt w base bK bP bM bA p v ms) (hm : Mod G w w') (hG : ∀ k, footS bK bP bM p v k → ¬ G k) : StkAt w' base bK bP bM bA p v ms :=
  ⟨(hm.block bK h.lt (hG bK (.inl rfl))).trans h.box, h.pile.mod hm (fun k hk => hG k (.inr (.inl hk))), h.memo.mod hm (fun k hk => hG k (.inr (.inr hk))), h.apart, h.lo⟩
theorem StkAt.below (h : StkAt w base bK bP bM bA p v ms) (hb : Below w.heap.size w w') : StkAt w' base bK bP bM bA p v ms := h.mod (Mod.of_below (F := fun _ => False) hb) (fun _ _ e => e)
end

/-- What the memo holds is so. -/
def Coh (el : Int → Option Cal) (ms : List (Option Cal)) : Prop := ∀ (i : Nat) c, ms[i]? = some (some c) → el i = some c
theorem Coh.nil (el : Int → Option Cal) : Coh el [] := fun i c h => by simp at h
theorem Coh.grow {el : Int → Option Cal} {ms : List (Option Cal)} (h : Coh el ms) : Coh el (ms ++ [none]) := fun i c hc => by
  by_cases hi : i < ms.length
  · rw [List.getElem?_append_left hi] at hc; exact h i c hc
  · rw [List.getElem?_append_right (by omega)] at hc
    have := List.mem_of_getElem? hc
    simp at this
theorem Coh.poke {el : Int → Option Cal} {ms : List (Option Cal)} (h : Coh el ms) {i : Nat} {c : Cal} (he : el i = some c) : Coh el (ms.set i (some c)) := fun j d hd => by
  by_cases hj : j = i
  · subst hj
    rw [List.getElem?_set_self'] at hd
    cases hm : ms[j]? with
    | none => rw [hm] at hd; simp at hd
    | some y => rw [hm] at hd; simp at hd; subst hd; exact he
  · rw [List.getElem?_set_ne (fun e => hj e.symm)] at hd
    exact h j d hd
theorem Coh.mono {el el2 : Int → Option Cal} {ms : List (Option Cal)} (h : Coh el ms) (hm : ∀ i c, el i = some c → el2 i = some c) : Coh el2 ms := fun i c hc => hm _ _ (h i c hc)

/-- A stack at bK of the arena at bA, with these numbers, in the blocks F; what its memo holds is as el tells. -/
def StkS (w : World) (base bK bA : Nat) (el : Int → Option Cal) (L : List Int) (F : Nat → Prop) : Prop := ∃ bP bM p v ms, StkAt w base bK bP bM bA p v ms ∧ Coh el ms ∧ p.xs = L ∧ ∀ k, F k ↔ footS bK bP bM p v k
def UpdS (F : Nat → Prop) (w w' : World) (base bK bA : Nat) (el : Int → Option Cal) (L : List Int) : Prop := ∃ F', StkS w' base bK bA el L F' ∧ Mod F w w' ∧ ∀ k, F' k → F k ∨ w.heap.size ≤ k

section
variable {w w' w1 : World} {base bK bP bM bA : Nat} {el : Int → Option Cal} {L : List Int} {p : PartM} {v : Value} {ms : List (Option Cal)} {F G : Nat → Prop}
theorem StkS.lt (h : StkS w base bK bA el L F) {k : Nat} (hk : F k) : base ≤ k ∧ k < w.heap.size := by
  obtain ⟨bP, bM, p, v, ms, h, _, _, hF⟩ := h
  exact h.foot_lt ((hF k).1 hk)
theorem StkS.mod (h : StkS w base bK bA el L F) (hm : Mod G w w') (hG : ∀ k, F k → ¬ G k) : StkS w' base bK bA el L F := by
  obtain ⟨bP, bM, p, v, ms, h, hc, e, hF⟩ := h
  exact ⟨bP, bM, p, v, ms, h.mod hm (fun k hk => hG k ((hF k).2 hk)), hc, e, hF⟩
theorem StkS.below (h : StkS w base bK bA el L F) (hb : Below w.heap.size w w') : StkS w' base bK bA el L F := h.mod (Mod.of_below (F := fun _ => False) hb) (fun _ _ e => e)
theorem StkS.upd (h : StkS w base bK bA el L F) (hb : Below w.heap.size w w') : UpdS F w w' base bK bA el L := ⟨F, h.below hb, Mod.of_below hb, fun _ hk => .inl hk⟩
theorem UpdS.after (hb : Below w.heap.size w w1) (h : UpdS F w1 w' base bK bA el L) : UpdS F w w' base bK bA el L := by
  obtain ⟨F', h1, h2, h3⟩ := h
  exact ⟨F', h1, (Mod.of_below hb).trans h2, fun k hk => (h3 k hk).imp id (fun h => Nat.le_trans hb.size h)⟩
theorem UpdS.then (h : UpdS F w w1 base bK bA el L) (hb : Below w1.heap.size w1 w') : UpdS F w w' base bK bA el L := by
  obtain ⟨F', h1, h2, h3⟩ := h
  exact ⟨F', h1.below hb, h2.trans (Mod.of_below hb), h3⟩
theorem UpdS.chain {L2 : List Int} (h : UpdS F w w1 base bK bA el L) (h2 : ∀ F', StkS w1 base bK bA el L F' → UpdS F' w1 w' base bK bA el L2) : UpdS F w w' base bK bA el L2 := by
  obtain ⟨F', h1, hm, hf⟩ := h
  obtain ⟨F2, g1, g2, g3⟩ := h2 F' h1
  refine ⟨F2, g1, hm.then g2 hf, fun k hk => ?_⟩
  rcases g3 k hk with e | e
  · exact hf k e
  · exact .inr (Nat.le_trans hm.size e)
/-- What a method of the pile makes of the stack. -/
theorem StkAt.upd (h : StkAt w base bK bP bM bA p v ms) (hc : Coh el ms) (hF : ∀ k, F k ↔ footS bK bP bM p v k) (hu : UpdP w w' base bP p L) : UpdS F w w' base bK bA el L := by
  obtain ⟨p', h1, h2, h3, h4⟩ := hu
  refine ⟨footS bK bP bM p' v, ⟨bP, bM, p', v, ms, ⟨(h3.block bK h.lt h.ne).trans h.box, h1, h.memo.mod h3 (fun k hk e => h.apart k e hk), fun k hk hk2 => ?_, h.lo⟩, hc, h2, fun _ => Iff.rfl⟩, h3.mono (fun k _ hk => (hF k).2 (.inr (.inl hk))), ?_⟩
  · rcases h4 k hk with e | e
    · exact h.apart k e hk2
    · have := (h.memo.lt hk2).2
      omega
  · rintro k (rfl | hk | hk)
    · exact .inl ((hF _).2 (.inl rfl))
    · exact (h4 k hk).imp (fun e => (hF k).2 (.inr (.inl e))) id
    · exact .inl ((hF k).2 (.inr (.inr hk)))
/-- What becomes of the memo, of the stack. -/
theorem StkAt.updM {v' : Value} {ms' : List (Option Cal)} (h : StkAt w base bK bP bM bA p v ms) (hF : ∀ k, F k ↔ footS bK bP bM p v k) (h1 : KnM w' base bM v' ms') (hc : Coh el ms') (h3 : Mod (footM bM v) w w') (h4 : ∀ k, footM bM v' k → footM bM v k ∨ w.heap.size ≤ k) : UpdS F w w' base bK bA el p.xs := by
  refine ⟨footS bK bP bM p v', ⟨bP, bM, p, v', ms', ⟨(h3.block bK h.lt h.neM).trans h.box, h.pile.mod h3 (fun k hk e => h.apart k hk e), h1, fun k hk hk2 => ?_, h.lo⟩, hc, rfl, fun _ => Iff.rfl⟩, h3.mono (fun k _ hk => (hF k).2 (.inr (.inr hk))), ?_⟩
  · rcases h4 k hk2 with e | e
    · exact h.apart k hk e
    · have := (h.pile.foot_lt hk).2
      omega
  · rintro k (rfl | hk | hk)
    · exact .inl ((hF _).2 (.inl rfl))
    · exact .inl ((hF k).2 (.inr (.inl hk)))
    · exact (h4 k hk).imp (fun e => (hF k).2 (.inr (.inr e))) id
end

def atM (L : List Int) (i : Int) : Int := if 0 ≤ i then (L[i.toNat]?).getD (-1) else -1
theorem atM_in {L : List Int} {i : Nat} {x : Int} (h : L[i]? = some x) : atM L (i : Int) = x := by simp [atM, h]
theorem atM_out {L : List Int} {i : Int} (h : i < 0 ∨ (L.length : Int) ≤ i) : atM L i = -1 := by
  unfold atM
  split
  · rw [List.getElem?_eq_none (by omega)]; rfl
  · rfl
def topM (L : List Int) : Int := atM L ((L.length : Int) - 1)

section
variable {w : World} {base bK bP bM bA : Nat} {el : Int → Option Cal} {L : List Int} {p : PartM} {v : Value} {ms : List (Option Cal)} {F : Nat → Prop}

theorem made_s (h : StkAt w base bK bP bM bA p v ms) : Calls Tryz.prog 48 #[.pointer (some ⟨bK, 0, none⟩)] w fun e w' => e = .returned (.bool true) ∧ w = w' := by
  obtain ⟨h0, h1, h2⟩ := h.cells
  clear h
  go_enter Tryz.func48, Tryz.ntmps48
  go_wp2
  go_ret
  exact ⟨rfl, rfl⟩

theorem slen_any (h : StkS w base bK bA el L F) : Calls Tryz.prog 13 #[.pointer (some ⟨bK, 0, none⟩)] w fun e w' => e = .returned (.int .i64 L.length) ∧ w = w' := by
  obtain ⟨bP, bM, p, v, ms, h, _, rfl, _⟩ := h
  have HM := hide (made_s h)
  have HS := hide (size_any h.pile)
  obtain ⟨h0, h1, h2⟩ := h.cells
  clear h
  go_enter Tryz.func13, Tryz.ntmps13
  go_wp2_with (first | (go_at_call 48; refine (unhide HM).mono ?_; rintro e w' ⟨rfl, rfl⟩) | (go_at_call 49; refine (unhide HS).mono ?_; rintro e w' ⟨rfl, rfl⟩))
  go_ret
  exact ⟨rfl, rfl⟩

theorem sat_any (h : StkS w base bK bA el L F) (i : Int) : Calls Tryz.prog 15 #[.pointer (some ⟨bK, 0, none⟩), .int .i64 i] w fun e w' => e = .returned (.int .i64 (atM L i)) ∧ w = w' := by
  have HL := hide (slen_any h)
  obtain ⟨bP, bM, p, v, ms, h, _, rfl, _⟩ := h
  obtain ⟨h0, h1, h2⟩ := h.cells
  by_cases hi : i < 0
  · rw [atM_out (.inl hi)]
    clear h
    go_enter Tryz.func15, Tryz.ntmps15
    go_wp2
    go_ret
    exact ⟨rfl, rfl⟩
  · by_cases hj : (p.xs.length : Int) ≤ i
    · rw [atM_out (.inr hj)]
      clear h
      generalize p.xs.length = n at *
      go_enter Tryz.func15, Tryz.ntmps15
      go_wp2_with (go_at_call 13; refine (unhide HL).mono ?_; rintro e w' ⟨rfl, rfl⟩)
      go_ret
      exact ⟨rfl, rfl⟩
    · obtain ⟨k, rfl⟩ : ∃ k : Nat, i = (k : Int) := ⟨i.toNat, by omega⟩
      obtain ⟨x, hx⟩ : ∃ x, p.xs[k]? = some x := ⟨_, List.getElem?_eq_getElem (by omega)⟩
      rw [atM_in hx]
      have HA := hide (at_any h.pile k x hx)
      clear h hx
      generalize p.xs.length = n at *
      go_enter Tryz.func15, Tryz.ntmps15
      go_wp2_with (first | (go_at_call 13; refine (unhide HL).mono ?_; rintro e w' ⟨rfl, rfl⟩) | (go_at_call 52; refine (unhide HA).mono ?_; rintro e w' ⟨rfl, rfl⟩))
      go_ret
      exact ⟨rfl, rfl⟩

theorem stop_any (h : StkS w base bK bA el L F) (hl : L.length ≤ 100000) : Calls Tryz.prog 83 #[.pointer (some ⟨bK, 0, none⟩)] w fun e w' => e = .returned (.int .i64 (topM L)) ∧ w = w' := by
  have HL := hide (slen_any h)
  have HA := hide (sat_any h ((L.length : Int) - 1))
  have hz : (L.length : Int) ≤ 100000 := by omega
  unfold topM
  generalize atM L ((L.length : Int) - 1) = r at *
  generalize L.length = n at *
  clear h hl
  go_enter Tryz.func83, Tryz.ntmps83
  go_wp2_with (first | (go_at_call 13; refine (unhide HL).mono ?_; rintro e w' ⟨rfl, rfl⟩) | (go_at_call 15; refine (unhide HA).mono ?_; rintro e w' ⟨rfl, rfl⟩))
  go_ret
  exact ⟨rfl, rfl⟩

def findM (L : List Int) (x : Int) : Int := if x ∈ L then (L.idxOf x : Int) else -1
theorem idxOf_at {L : List Int} (hn : L.Nodup) {j : Nat} {x : Int} (h : L[j]? = some x) : L.idxOf x = j := by
  induction L generalizing j with
  | nil => simp at h
  | cons y L ih =>
    cases j with
    | zero => simp at h; subst h; simp
    | succ j =>
      have h' : L[j]? = some x := by simpa using h
      have hm : x ∈ L := List.mem_of_getElem? h'
      have hne : y ≠ x := by
        intro e; subst e
        exact (List.nodup_cons.1 hn).1 hm
      rw [List.idxOf_cons]
      have : (y == x) = false := by simpa using hne
      rw [this]
      simp only [cond_false]
      rw [ih (List.nodup_cons.1 hn).2 h']
theorem FindR.eq {x r : Int} (h : FindR L x r) (hn : L.Nodup) : r = findM L x := by
  rcases h with ⟨rfl, h⟩ | ⟨j, rfl, h⟩
  · rw [findM, if_neg h]
  · rw [findM, if_pos (List.mem_of_getElem? h), idxOf_at hn h]
theorem findM_in {x : Int} (h : x ∈ L) : ∃ j : Nat, findM L x = (j : Int) ∧ L[j]? = some x ∧ j < L.length := by
  refine ⟨L.idxOf x, if_pos h, ?_, List.idxOf_lt_length_of_mem h⟩
  rw [List.getElem?_eq_getElem (List.idxOf_lt_length_of_mem h), List.getElem_idxOf]
theorem findM_out {x : Int} (h : x ∉ L) : findM L x = -1 := if_neg h

theorem sfind_any (h : StkS w base bK bA el L F) (hl : L.length ≤ 100000) (hn : L.Nodup) (x : Int) : Calls Tryz.prog 89 #[.pointer (some ⟨bK, 0, none⟩), .int .i64 x] w fun e w' => e = .returned (.int .i64 (findM L x)) ∧ w = w' := by
  obtain ⟨bP, bM, p, v, ms, h, _, rfl, _⟩ := h
  have HM := hide (made_s h)
  have HS := hide (place_any h.pile hl x)
  have HN : Hid (∀ r, FindR p.xs x r → r = findM p.xs x) := hide (fun r hr => hr.eq hn)
  obtain ⟨h0, h1, h2⟩ := h.cells
  clear h hl hn
  go_enter Tryz.func89, Tryz.ntmps89
  go_wp2_with (first | (go_at_call 48; refine (unhide HM).mono ?_; rintro e w' ⟨rfl, rfl⟩) | (go_at_call 122; refine (unhide HS).mono ?_; rintro e w' ⟨⟨r, rfl, hr⟩, rfl⟩; have HR := hide hr; clear hr))
  go_ret
  exact ⟨by rw [(unhide HN) r (unhide HR)]; rfl, rfl⟩
end
end Go.Proofs.YtkakncngkmoegaaGreat

namespace Go.Proofs.YtkakncngkmoegaaGreat
open Go.RowKit

/-- What the element of a number is called. -/
def elOf (ks : List Key) (id : Int) : Option Cal := match keyAt ks id with
  | some q => if q.kind = 1 then some ⟨q.space, q.name⟩ else none
  | none => none
def calOf (ks : List Key) (id : Int) : Cal := (elOf ks id).getD cal0

theorem elOf_none {ks : List Key} {id : Int} (h : keyAt ks id = none) : elOf ks id = none := by simp [elOf, h]
theorem elOf_key {ks : List Key} {id : Int} {q : Key} (h : keyAt ks id = some q) : elOf ks id = if q.kind = 1 then some ⟨q.space, q.name⟩ else none := by simp [elOf, h]
theorem elOf_nat {ks : List Key} {id : Int} (h : (elOf ks id).isSome = true) : ∃ i : Nat, id = (i : Int) ∧ i < ks.length := by
  cases hk : keyAt ks id with
  | none => rw [elOf_none hk] at h; cases h
  | some q =>
    obtain ⟨i, rfl, hi⟩ := keyAt_some hk
    exact ⟨i, rfl, (List.getElem?_eq_some_iff.1 hi).1⟩

/-- Each number of the stack is an element's, and stands there once. -/
structure Good (ks : List Key) (L : List Int) : Prop where
  nodup : L.Nodup
  el : ∀ x ∈ L, (elOf ks x).isSome = true

theorem Good.nil (ks : List Key) : Good ks [] := ⟨List.nodup_nil, fun x hx => by cases hx⟩
theorem Good.len {ks : List Key} {L : List Int} (h : Good ks L) : L.length ≤ ks.length := by
  have h1 : (L.map Int.toNat).Nodup := by
    have key : ∀ l : List Int, l.Nodup → (∀ x ∈ l, (elOf ks x).isSome = true) → (l.map Int.toNat).Nodup := by
      intro l
      induction l with
      | nil => intro _ _; simp
      | cons a l ih =>
        intro hn he
        rw [List.map_cons, List.nodup_cons]
        refine ⟨fun hm => ?_, ih (List.nodup_cons.1 hn).2 (fun x hx => he x (List.mem_cons_of_mem _ hx))⟩
        obtain ⟨y, hy, e⟩ := List.mem_map.1 hm
        obtain ⟨i, rfl, _⟩ := elOf_nat (he a List.mem_cons_self)
        obtain ⟨j, rfl, _⟩ := elOf_nat (he y (List.mem_cons_of_mem _ hy))
        simp at e
        subst e
        exact (List.nodup_cons.1 hn).1 hy
    exact key L h.nodup h.el
  have := List.Nodup.length_le_of_subset h1 (l₂ := List.range ks.length) (fun x hx => by
    obtain ⟨y, hy, rfl⟩ := List.mem_map.1 hx
    obtain ⟨i, rfl, hi⟩ := elOf_nat (h.el y hy)
    simpa using hi)
  simpa using this
theorem Good.cal {ks : List Key} {L : List Int} (h : Good ks L) {x : Int} (hx : x ∈ L) : elOf ks x = some (calOf ks x) := by
  have := h.el x hx
  unfold calOf
  cases he : elOf ks x with
  | none => rw [he] at this; cases this
  | some c => rfl
theorem Good.sub {ks : List Key} {L L2 : List Int} (h : Good ks L) (hs : L2.Sublist L) : Good ks L2 := ⟨h.nodup.sublist hs, fun x hx => h.el x (hs.subset hx)⟩

/-- A stack beside its arena. -/
structure Live (w : World) (base bK bA : Nat) (ks : List Key) (L : List Int) : Prop where
  ar : ∃ F, ArK w base bA ks F
  st : ∃ F, StkS w base bK bA (elOf ks) L F
theorem Live.below {w w' : World} {base bK bA : Nat} {ks : List Key} {L : List Int} (h : Live w base bK bA ks L) (hb : Below w.heap.size w w') : Live w' base bK bA ks L := by
  obtain ⟨⟨F, h1⟩, ⟨G, h2⟩⟩ := h
  exact ⟨⟨F, h1.below hb⟩, ⟨G, h2.below hb⟩⟩


/-- What look tells of a number. -/
def knownOf (ks : List Key) (id : Int) : Value := match elOf ks id with
  | some c => kV c
  | none => .agg zRow
theorem known_ret (W : World) (b : Nat) (cs : Array Value) (hs : cs.size = 8) (h : W.heap[b]? = some (.cells cs 188 (0, 0))) (tmps : Array Value) (x : Value) (h4 : tmps.getD 4 undef = .pointer (some ⟨b, 0, none⟩)) (h5 : tmps.getD 5 undef = x) :
    (results Tryz.f144 tmps).run Tryz.prog W = .ok (.tuple #[.agg cs, x]) W := by
  rw [results_cell_tmp (p := 4) (u := 5) (ty := 188) Tryz.results144 tmps Tryz.prog W, h4, h5]
  have hr := run_loadVar_row W b 188 188 cs (0, 0) _ h Tryz.underlying188 rfl (by rw [hs]; kernel_rfl)
  simp [asAddr, hr]

section
variable {w : World} {base bK bA : Nat} {ks : List Key} {L : List Int} {F FA : Nat → Prop}
theorem look_neg (hs : StkS w base bK bA (elOf ks) L F) (id : Int) (hn : id < 0) : Calls Tryz.prog 144 #[.pointer (some ⟨bK, 0, none⟩), .int .i64 id] w fun e w' =>
    e = .returned (.tuple #[.agg zRow, .bool false]) ∧ Below w.heap.size w w' := by
  obtain ⟨bP, bM, p, v, ms, h, _, _, _⟩ := hs
  have HM := hide (made_s (h.below (below_new w (.cells zRow 188))))
  clear h
  unfold zRow at HM
  go_enter Tryz.func144, Tryz.ntmps144
  go_wp2_with (go_at_call 48; refine (unhide HM).mono ?_; rintro e w1 ⟨rfl, rfl⟩)
  exact bodyPost_ret (v := .tuple #[.agg zRow, .bool false]) (known_ret _ w.heap.size zRow rfl (heap_alloc_new w _) _ _ rfl rfl) rfl ⟨rfl, below_new _ _⟩
end
end Go.Proofs.YtkakncngkmoegaaGreat

namespace Go.Proofs.YtkakncngkmoegaaGreat
open Go.RowKit

section
variable {w : World} {base bK bA : Nat} {ks : List Key} {L : List Int} {F FA : Nat → Prop}
set_option maxHeartbeats 4000000 in
/-- What is kept is told. -/
theorem look_there {bP bM : Nat} {p : PartM} {v : Value} {ms : List (Option Cal)} (h : StkAt w base bK bP bM bA p v ms) {i : Nat} {c : Cal} (hi : ms[i]? = some (some c)) : Calls Tryz.prog 144 #[.pointer (some ⟨bK, 0, none⟩), .int .i64 (i : Int)] w fun e w' =>
    e = .returned (.tuple #[kV c, .bool true]) ∧ Below w.heap.size w w' := by
  have hb0 := below_new w (.cells zRow 188)
  have h' := h.below hb0
  have HM := hide (made_s h')
  obtain ⟨s0, s1, s2⟩ := h'.cells
  obtain ⟨m0, _⟩ := h'.memo.cells
  obtain ⟨g, cap, rfl, hat⟩ := h'.memo.at hi
  have hlt : (i : Int) < (ms.length : Int) := by have := (List.getElem?_eq_some_iff.1 hi).1; omega
  have hi0 : (0 : Int) ≤ (i : Int) := by omega
  have hin0 : ¬ (i : Int) < 0 := by omega
  have a0 := hat 0 (by omega)
  have a1 := hat 1 (by omega)
  have a2 := hat 2 (by omega)
  have a3 := hat 3 (by omega)
  have a4 := hat 4 (by omega)
  have a5 := hat 5 (by omega)
  have a6 := hat 6 (by omega)
  have a7 := hat 7 (by omega)
  have hgne : g ≠ w.heap.size := by
    have := (h.memo.own.lt g rfl).2
    omega
  have hkv : kV c = .agg #[.int .i64 c.space, .string c.name, .bool (bAt c 5 0), .bool (bAt c 5 1), .bool (bAt c 5 2), .bool (bAt c 5 3), .bool (bAt c 5 4), .bool true] := rfl
  rw [hkv]
  clear hkv
  obtain ⟨cs, cn⟩ := c
  simp only [eCells, kRow, Nat.add_zero, List.getElem?_cons_zero, List.getElem?_cons_succ] at a0 a1 a2 a3 a4 a5 a6 a7
  unfold zRow at *
  generalize bAt ⟨cs, cn⟩ 5 0 = e0 at *
  generalize bAt ⟨cs, cn⟩ 5 1 = e1 at *
  generalize bAt ⟨cs, cn⟩ 5 2 = e2 at *
  generalize bAt ⟨cs, cn⟩ 5 3 = e3 at *
  generalize bAt ⟨cs, cn⟩ 5 4 = e4 at *
  clear h h' hi hat hb0
  go_enter Tryz.func144, Tryz.ntmps144
  go_wp2_with (go_at_call 48; refine (unhide HM).mono ?_; rintro e w1 ⟨rfl, rfl⟩)
  exact bodyPost_ret (v := .tuple #[.agg #[.int .i64 cs, .string cn, .bool e0, .bool e1, .bool e2, .bool e3, .bool e4, .bool true], .bool true]) (known_ret _ w.heap.size _ rfl (heap_alloc_new w _) _ _ rfl rfl) rfl ⟨rfl, below_new _ _⟩
end
end Go.Proofs.YtkakncngkmoegaaGreat
