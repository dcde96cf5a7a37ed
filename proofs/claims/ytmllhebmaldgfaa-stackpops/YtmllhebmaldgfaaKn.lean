/-
  What is kept of an element: newKnown.
-/
import Derived.Test.YtmllhebmaldgfaaSe
import Derived.Laws.Rows
namespace Go.Proofs.Ytmllhebmaldgfaa
open Go.RowKit

/-- The borders known behind i rounds. -/
def bAt (c : Cal) (i j : Nat) : Bool := if j < i then borderM c j else false
def kRow (c : Cal) (i : Nat) : Array Value := #[.int .i64 c.space, .string c.name, .bool (bAt c i 0), .bool (bAt c i 1), .bool (bAt c i 2), .bool (bAt c i 3), .bool (bAt c i 4), .bool true]
def kV (c : Cal) : Value := .agg (kRow c 5)
def zRow : Array Value := #[.int .i64 0, .string ⟨#[]⟩, .bool false, .bool false, .bool false, .bool false, .bool false, .bool false]
theorem kRow_zero (c : Cal) : kRow c 0 = #[.int .i64 c.space, .string c.name, .bool false, .bool false, .bool false, .bool false, .bool false, .bool true] := rfl
theorem kRow_set (c : Cal) (i : Nat) (h : i < 5) : (kRow c i).setIfInBounds (2 + i) (.bool (borderM c i)) = kRow c (i + 1) := by
  rcases i with _ | _ | _ | _ | _ | i
  · simp [kRow, bAt]
  · simp [kRow, bAt]
  · simp [kRow, bAt]
  · simp [kRow, bAt]
  · simp [kRow, bAt]
  · omega

/-- The three blocks of newKnown behind i rounds. -/
structure Kn (w wr : World) (c : Cal) (i : Nat) : Prop where
  x : wr.heap[w.heap.size]? = some (.cells #[.int .i64 c.space, .string c.name] 100 (0, 0))
  r : wr.heap[w.heap.size + 1]? = some (.cells zRow 103 (0, 0))
  k : wr.heap[w.heap.size + 1 + 1]? = some (.cells (kRow c i) 103 (0, 0))
  bel : Below w.heap.size w wr
theorem Kn.start (w : World) (c : Cal) : Kn w (((w.alloc (.cells #[.int .i64 c.space, .string c.name] 100)).alloc (.cells zRow 103)).alloc (.cells (kRow c 0) 103)) c 0 := by
  have h0 := heap_alloc_new w (.cells #[.int .i64 c.space, .string c.name] 100)
  have h1 := heap_alloc_new (w.alloc (.cells #[.int .i64 c.space, .string c.name] 100)) (.cells zRow 103)
  have h2 := heap_alloc_new ((w.alloc (.cells #[.int .i64 c.space, .string c.name] 100)).alloc (.cells zRow 103)) (.cells (kRow c 0) 103)
  refine ⟨?_, ?_, ?_, below3 w _ _ _⟩
  · exact (Below.heap_alloc _ _ _ (by simp only [World.size_alloc]; omega)).trans ((Below.heap_alloc _ _ _ (by simp only [World.size_alloc]; omega)).trans h0)
  · exact (Below.heap_alloc _ _ _ (by simp only [World.size_alloc]; omega)).trans (by simpa using h1)
  · simpa using h2
theorem Kn.next {w wr w1 : World} {c : Cal} {i : Nat} (h : Kn w wr c i) (hi : i < 5) (hb : Below wr.heap.size wr w1) : Kn w (w1.setCell ⟨w.heap.size + 1 + 1, 2 + i, none⟩ (.bool (borderM c i))) c (i + 1) := by
  have l0 := lt_of_block h.x
  have l1 := lt_of_block h.r
  have l2 := lt_of_block h.k
  have hm : Mod (fun k => k = w.heap.size + 1 + 1) w1 (w1.setCell ⟨w.heap.size + 1 + 1, 2 + i, none⟩ (.bool (borderM c i))) := Mod.setCell _ _ _ rfl
  have e0 := (hb.block _ l0).trans h.x
  have e1 := (hb.block _ l1).trans h.r
  have e2 := (hb.block _ l2).trans h.k
  refine ⟨(hm.block _ (lt_of_block e0) (by omega)).trans e0, (hm.block _ (lt_of_block e1) (by omega)).trans e1, ?_, ?_⟩
  · have := heap_setCell_same w1 (w.heap.size + 1 + 1) (2 + i) _ _ (.bool (borderM c i)) e2
    rw [← kRow_set c i hi]
    simpa using this
  · have b1 := h.bel.trans (hb.mono h.bel.size)
    exact b1.trans (hm.below b1.size (fun k hk => by omega))
theorem Kn.facts {w wr w1 : World} {c : Cal} {i : Nat} (h : Kn w wr c i) (hb : Below wr.heap.size wr w1) : w1.cell? ⟨w.heap.size, 0, none⟩ = some (.int .i64 c.space) ∧ w1.cell? ⟨w.heap.size, 1, none⟩ = some (.string c.name) ∧ (i < 5 → ∃ u, w1.cell? ⟨w.heap.size + 1 + 1, 2 + i, none⟩ = some u) ∧ ∀ j : Nat, w1.frozen? ⟨w.heap.size + 1 + 1, j, none⟩ = false := by
  have e0 := (hb.block _ (lt_of_block h.x)).trans h.x
  have e2 := (hb.block _ (lt_of_block h.k)).trans h.k
  exact ⟨cell_row _ _ 0 _ _ _ e0, cell_row _ _ 1 _ _ _ e0, fun hi => ⟨_, (cell_row _ _ (2 + i) _ _ _ e2).trans (Array.getElem?_eq_getElem (by simp [kRow]; omega))⟩, fun j => by simp [World.frozen?, e2]⟩

theorem eight_block (w : World) (b : Nat) (v0 v1 v2 v3 v4 v5 v6 v7 x0 x1 x2 x3 x4 x5 x6 x7 : Value) (t : TypeId) (h : w.heap[b]? = some (.cells #[x0, x1, x2, x3, x4, x5, x6, x7] t (0, 0))) : ((((((((w.setCell ⟨b, 0, none⟩ v0).setCell ⟨b, 1, none⟩ v1).setCell ⟨b, 2, none⟩ v2).setCell ⟨b, 3, none⟩ v3).setCell ⟨b, 4, none⟩ v4).setCell ⟨b, 5, none⟩ v5).setCell ⟨b, 6, none⟩ v6).setCell ⟨b, 7, none⟩ v7).heap[b]? = some (.cells #[v0, v1, v2, v3, v4, v5, v6, v7] t (0, 0)) ∧ Mod (fun k => k = b) w ((((((((w.setCell ⟨b, 0, none⟩ v0).setCell ⟨b, 1, none⟩ v1).setCell ⟨b, 2, none⟩ v2).setCell ⟨b, 3, none⟩ v3).setCell ⟨b, 4, none⟩ v4).setCell ⟨b, 5, none⟩ v5).setCell ⟨b, 6, none⟩ v6).setCell ⟨b, 7, none⟩ v7) := by
  have h0 := heap_setCell_same _ b 0 _ t v0 h
  have h1 := heap_setCell_same _ b 1 _ t v1 h0
  have h2 := heap_setCell_same _ b 2 _ t v2 h1
  have h3 := heap_setCell_same _ b 3 _ t v3 h2
  have h4 := heap_setCell_same _ b 4 _ t v4 h3
  have h5 := heap_setCell_same _ b 5 _ t v5 h4
  have h6 := heap_setCell_same _ b 6 _ t v6 h5
  have h7 := heap_setCell_same _ b 7 _ t v7 h6
  refine ⟨by simpa using h7, ?_⟩
  exact ((((((((Mod.setCell (F := fun k => k = b) _ ⟨b, 0, none⟩ _ rfl).trans (Mod.setCell (F := fun k => k = b) _ ⟨b, 1, none⟩ _ rfl)).trans (Mod.setCell (F := fun k => k = b) _ ⟨b, 2, none⟩ _ rfl)).trans (Mod.setCell (F := fun k => k = b) _ ⟨b, 3, none⟩ _ rfl)).trans (Mod.setCell (F := fun k => k = b) _ ⟨b, 4, none⟩ _ rfl)).trans (Mod.setCell (F := fun k => k = b) _ ⟨b, 5, none⟩ _ rfl)).trans (Mod.setCell (F := fun k => k = b) _ ⟨b, 6, none⟩ _ rfl)).trans (Mod.setCell (F := fun k => k = b) _ ⟨b, 7, none⟩ _ rfl))

set_option maxHeartbeats 2000000 in
theorem newKnown_any (c : Cal) (w : World) : Calls Try.prog 114 #[c.agg] w fun e w' => e = .returned (kV c) ∧ Below w.heap.size w w' := by
  have HS := hide (Kn.start w c)
  rw [kRow_zero] at HS
  unfold zRow at HS
  obtain ⟨cs, cn⟩ := c
  simp only [Cal.agg] at *
  go_enter Try.func114, Try.ntmps114
  obtain ⟨p0, p1, _, _⟩ := (unhide HS).facts (Below.refl _ _)
  simp only at p0 p1
  go_wp2
  clear p0 p1
  go_loopg [4, 7] 5 (fun g _ s7 wr => ∃ i : Nat, i + g = 5 ∧ s7 = .int .i64 (i : Int) ∧ Kn w wr ⟨cs, cn⟩ i)
  case atStart => exact ⟨0, rfl, rfl, unhide HS⟩
  case round =>
    obtain ⟨i, hig, rfl, hk⟩ := hrel
    have HK := hide hk
    obtain ⟨q0, q1, qk, qf⟩ := hk.facts (Below.refl _ _)
    simp only at q0 q1
    clear HS hk
    by_cases hi : i < 5
    · have hiz : (i : Int) < 5 := by omega
      have hi0 : (0 : Int) ≤ (i : Int) := by omega
      have HI := hide hi
      have HIG := hide hig
      clear qk qf hi hig
      have HB := hide (fun W => isBorder_any ⟨cs, cn⟩ (i : Int) hi0 (by omega) W)
      simp only [Cal.agg] at HB
      go_wp2_with (go_at_call 127; refine ((unhide HB) _).mono ?_; rintro e w1 ⟨rfl, hb⟩; have HN := hide ((unhide HK).next (unhide HI) hb); obtain ⟨_, _, rk, rf⟩ := (unhide HK).facts hb; obtain ⟨u, ru⟩ := rk (unhide HI); have rf := rf (2 + i); clear rk hb)
      go_roundg (gk - 1)
      case measure => have := unhide HIG; omega
      case rel => exact ⟨i + 1, by have := unhide HIG; omega, by go_num, unhide HN⟩
    · obtain rfl : i = 5 := by omega
      clear qk qf hi hig
      have hk := (unhide HK).k
      have hr := (unhide HK).r
      have hbel := (unhide HK).bel
      have hlt := lt_of_block hr
      have hkv : kV ⟨cs, cn⟩ = .agg #[.int .i64 cs, .string cn, .bool (bAt ⟨cs, cn⟩ 5 0), .bool (bAt ⟨cs, cn⟩ 5 1), .bool (bAt ⟨cs, cn⟩ 5 2), .bool (bAt ⟨cs, cn⟩ 5 3), .bool (bAt ⟨cs, cn⟩ 5 4), .bool true] := rfl
      unfold kRow at hk
      unfold zRow at hr
      clear HK
      generalize bAt ⟨cs, cn⟩ 5 0 = e0 at *
      generalize bAt ⟨cs, cn⟩ 5 1 = e1 at *
      generalize bAt ⟨cs, cn⟩ 5 2 = e2 at *
      generalize bAt ⟨cs, cn⟩ 5 3 = e3 at *
      generalize bAt ⟨cs, cn⟩ 5 4 = e4 at *
      have HKV := hide hkv
      clear hkv
      have hall := eight_block wr (w.heap.size + 1) (.int .i64 cs) (.string cn) (.bool e0) (.bool e1) (.bool e2) (.bool e3) (.bool e4) (.bool true) _ _ _ _ _ _ _ _ 103 hr
      have HALL := hide hall
      have HBEL := hide hbel
      have z0 := cell_row _ _ 0 _ _ _ hk
      have z1 := cell_row _ _ 1 _ _ _ hk
      have z2 := cell_row _ _ 2 _ _ _ hk
      have z3 := cell_row _ _ 3 _ _ _ hk
      have z4 := cell_row _ _ 4 _ _ _ hk
      have z5 := cell_row _ _ 5 _ _ _ hk
      have z6 := cell_row _ _ 6 _ _ _ hk
      have z7 := cell_row _ _ 7 _ _ _ hk
      have y0 := cell_row _ _ 0 _ _ _ hr
      have y1 := cell_row _ _ 1 _ _ _ hr
      have y2 := cell_row _ _ 2 _ _ _ hr
      have y3 := cell_row _ _ 3 _ _ _ hr
      have y4 := cell_row _ _ 4 _ _ _ hr
      have y5 := cell_row _ _ 5 _ _ _ hr
      have y6 := cell_row _ _ 6 _ _ _ hr
      have y7 := cell_row _ _ 7 _ _ _ hr
      have yf : ∀ j : Nat, wr.frozen? ⟨w.heap.size + 1, j, none⟩ = false := fun j => by simp [World.frozen?, hr]
      simp only [List.getElem?_toArray, List.getElem?_cons_zero, List.getElem?_cons_succ] at z0 z1 z2 z3 z4 z5 z6 z7 y0 y1 y2 y3 y4 y5 y6 y7
      have yf0 := yf 0
      have yf1 := yf 1
      have yf2 := yf 2
      have yf3 := yf 3
      have yf4 := yf 4
      have yf5 := yf 5
      have yf6 := yf 6
      have yf7 := yf 7
      clear hk hr hbel hlt hall yf
      go_wp2
      rw [unhide HKV]
      exact bodyPost_ret (results_cell_row Try.results114 _ _ (w.heap.size + 1) _ _ _ _ rfl (unhide HALL).1 Try.underlying103 rfl (by kernel_rfl)) rfl ⟨rfl, (unhide HBEL).trans ((unhide HALL).2.below (unhide HBEL).size (fun k hk => by omega))⟩
end Go.Proofs.Ytmllhebmaldgfaa
