/-
  No element: nothing is told, nothing is kept.
-/
import Derived.Test.YtmllhebmaldgfaaSb2
namespace Go.Proofs.Ytmllhebmaldgfaa
open Go.RowKit

section
variable {w : World} {base bK bA : Nat} {ks : List Key} {L : List Int} {F FA : Nat → Prop}
theorem look_kb (w : World) : ∀ w4, Below (w.alloc (.cells zRow 103)).heap.size (w.alloc (.cells zRow 103)) w4 → w4.heap[w.heap.size]? = some (.cells zRow 103 (0, 0)) ∧ w.heap.size < w4.heap.size ∧ Below w.heap.size w w4 := fun w4 hb4 => by
  have hs := hb4.size
  rw [World.size_alloc] at hs
  exact ⟨(hb4.block _ (by rw [World.size_alloc]; omega)).trans (heap_alloc_new w _), by omega, (below_new w _).trans (hb4.mono (by rw [World.size_alloc]; omega))⟩
theorem look_unfrozen {w4 : World} {b : Nat} {cs : Array Value} {t : TypeId} (h : w4.heap[b]? = some (.cells cs t (0, 0))) : ∀ j : Nat, w4.frozen? ⟨b, j, none⟩ = false := fun j => by simp [World.frozen?, h]
theorem look_fin (w w4 : World) (h1 : w4.heap[w.heap.size]? = some (.cells zRow 103 (0, 0))) (h3 : Below w.heap.size w w4) (hlt : w.heap.size < w4.heap.size) (o : Obj) :
    (((((((((w4.setCell ⟨w.heap.size, 0, none⟩ (.int .i64 0)).setCell ⟨w.heap.size, 1, none⟩ (.string ⟨#[]⟩)).setCell ⟨w.heap.size, 2, none⟩ (.bool false)).setCell ⟨w.heap.size, 3, none⟩ (.bool false)).setCell ⟨w.heap.size, 4, none⟩ (.bool false)).setCell ⟨w.heap.size, 5, none⟩ (.bool false)).setCell ⟨w.heap.size, 6, none⟩ (.bool false)).setCell ⟨w.heap.size, 7, none⟩ (.bool false)).alloc o).heap[w.heap.size]? = some (.cells zRow 103 (0, 0)) ∧
    Below w.heap.size w (((((((((w4.setCell ⟨w.heap.size, 0, none⟩ (.int .i64 0)).setCell ⟨w.heap.size, 1, none⟩ (.string ⟨#[]⟩)).setCell ⟨w.heap.size, 2, none⟩ (.bool false)).setCell ⟨w.heap.size, 3, none⟩ (.bool false)).setCell ⟨w.heap.size, 4, none⟩ (.bool false)).setCell ⟨w.heap.size, 5, none⟩ (.bool false)).setCell ⟨w.heap.size, 6, none⟩ (.bool false)).setCell ⟨w.heap.size, 7, none⟩ (.bool false)).alloc o) := by
  unfold zRow at h1
  obtain ⟨e1, e2⟩ := eight_block w4 w.heap.size (.int .i64 0) (.string ⟨#[]⟩) (.bool false) (.bool false) (.bool false) (.bool false) (.bool false) (.bool false) _ _ _ _ _ _ _ _ _ h1
  have e3 := e2.below h3.size (fun k hk => by omega)
  have hs := e2.size
  exact ⟨(Below.heap_alloc _ _ _ (by omega)).trans e1, (h3.trans e3).alloc (Nat.le_trans h3.size hs) _⟩

set_option maxHeartbeats 4000000 in
theorem look_no1 (ha : ArK w base bA ks FA) {bP bM : Nat} {p : PartM} {v : Value} {ms : List (Option Cal)} (h : StkAt w base bK bP bM bA p v ms) {i : Nat} (hi : ms.length ≤ i) (hk : keyAt ks (i : Int) = none) : Calls Try.prog 68 #[.pointer (some ⟨bK, 0, none⟩), .int .i64 (i : Int)] w fun e w' =>
    e = .returned (.tuple #[.agg zRow, .bool false]) ∧ Below w.heap.size w w' := by
  have hb0 := below_new w (.cells zRow 103)
  have h' := h.below hb0
  have HM := hide (made_s h')
  obtain ⟨s0, s1, s2⟩ := h'.cells
  obtain ⟨m0, _⟩ := h'.memo.cells
  have HKB := hide (look_kb w)
  have hi0 : (0 : Int) ≤ (i : Int) := by omega
  have hin0 : ¬ (i : Int) < 0 := by omega
  obtain ⟨a, cap, rfl⟩ := h'.memo.len
  have hge : ¬ (i : Int) < (ms.length : Int) := by omega
  have HN := hide (node_k_no (ha.below hb0) hk)
  generalize ms.length = len at *
  clear h h' ha hi hk hb0
  unfold zRow at HM HN HKB s0 s1 s2 m0
  go_enter Try.func68, Try.ntmps68
  go_wp2_with (first | (go_at_call 55; refine (unhide HM).mono ?_; rintro e w1 ⟨rfl, rfl⟩) | (go_at_call 18; refine (unhide HN).mono ?_; rintro e w4 ⟨rfl, hb4⟩; obtain ⟨kb1, kb2, kb3⟩ := (unhide HKB) w4 hb4; have y0 := (cell_row _ _ 0 _ _ _ kb1).trans (List.getElem?_toArray ..); have y1 := (cell_row _ _ 1 _ _ _ kb1).trans (List.getElem?_toArray ..); have y2 := (cell_row _ _ 2 _ _ _ kb1).trans (List.getElem?_toArray ..); have y3 := (cell_row _ _ 3 _ _ _ kb1).trans (List.getElem?_toArray ..); have y4 := (cell_row _ _ 4 _ _ _ kb1).trans (List.getElem?_toArray ..); have y5 := (cell_row _ _ 5 _ _ _ kb1).trans (List.getElem?_toArray ..); have y6 := (cell_row _ _ 6 _ _ _ kb1).trans (List.getElem?_toArray ..); have y7 := (cell_row _ _ 7 _ _ _ kb1).trans (List.getElem?_toArray ..); simp only [List.getElem?_cons_zero, List.getElem?_cons_succ] at y0 y1 y2 y3 y4 y5 y6 y7; have yf := look_unfrozen kb1; have yf0 := yf 0; have yf1 := yf 1; have yf2 := yf 2; have yf3 := yf 3; have yf4 := yf 4; have yf5 := yf 5; have yf6 := yf 6; have yf7 := yf 7; have kne : ¬ w.heap.size = w4.heap.size := (by omega); have kne2 : ¬ w4.heap.size = w.heap.size := (by omega); have klt : w.heap.size < w4.heap.size := kb2; have HB1 := hide kb1; have HB3 := hide kb3; unfold nodeZ; clear hb4 kb1 kb2 kb3 yf))
  have R := fun o => look_fin w w4 (unhide HB1) (unhide HB3) klt o
  unfold zRow at R
  exact bodyPost_ret (v := .tuple #[.agg zRow, .bool false]) (known_ret _ w.heap.size zRow rfl (R _).1 _ _ rfl rfl) rfl ⟨rfl, (R _).2⟩

set_option maxHeartbeats 4000000 in
theorem look_no2 (ha : ArK w base bA ks FA) {bP bM : Nat} {p : PartM} {v : Value} {ms : List (Option Cal)} (h : StkAt w base bK bP bM bA p v ms) {i : Nat} (hi : ms.length ≤ i) {q : Key} (hk : keyAt ks (i : Int) = some q) (hq1 : q.kind ≠ 1) : Calls Try.prog 68 #[.pointer (some ⟨bK, 0, none⟩), .int .i64 (i : Int)] w fun e w' =>
    e = .returned (.tuple #[.agg zRow, .bool false]) ∧ Below w.heap.size w w' := by
  have hb0 := below_new w (.cells zRow 103)
  have h' := h.below hb0
  have HM := hide (made_s h')
  obtain ⟨s0, s1, s2⟩ := h'.cells
  obtain ⟨m0, _⟩ := h'.memo.cells
  have HKB := hide (look_kb w)
  have hi0 : (0 : Int) ≤ (i : Int) := by omega
  have hin0 : ¬ (i : Int) < 0 := by omega
  obtain ⟨a, cap, rfl⟩ := h'.memo.len
  have hge : ¬ (i : Int) < (ms.length : Int) := by omega
  have HN := hide (node_k (ha.below hb0) hk)
  obtain ⟨qk, qs, qn⟩ := q
  have hq1' : (qk != 1) = true := by simpa using hq1
  clear hq1
  generalize ms.length = len at *
  clear h h' ha hi hk hb0
  unfold zRow at HM HN HKB s0 s1 s2 m0
  go_enter Try.func68, Try.ntmps68
  go_wp2_with (first | (go_at_call 55; refine (unhide HM).mono ?_; rintro e w1 ⟨rfl, rfl⟩) | (go_at_call 18; refine (unhide HN).mono ?_; rintro e w4 ⟨n, ao, mm, cc, rfl, hq, hb4⟩; obtain ⟨nk, nsp, nnm, nav, nda, nsy, npa, nfi, nla, npr, nne, nin, nat⟩ := n; obtain ⟨kb1, kb2, kb3⟩ := (unhide HKB) w4 hb4; have y0 := (cell_row _ _ 0 _ _ _ kb1).trans (List.getElem?_toArray ..); have y1 := (cell_row _ _ 1 _ _ _ kb1).trans (List.getElem?_toArray ..); have y2 := (cell_row _ _ 2 _ _ _ kb1).trans (List.getElem?_toArray ..); have y3 := (cell_row _ _ 3 _ _ _ kb1).trans (List.getElem?_toArray ..); have y4 := (cell_row _ _ 4 _ _ _ kb1).trans (List.getElem?_toArray ..); have y5 := (cell_row _ _ 5 _ _ _ kb1).trans (List.getElem?_toArray ..); have y6 := (cell_row _ _ 6 _ _ _ kb1).trans (List.getElem?_toArray ..); have y7 := (cell_row _ _ 7 _ _ _ kb1).trans (List.getElem?_toArray ..); simp only [List.getElem?_cons_zero, List.getElem?_cons_succ] at y0 y1 y2 y3 y4 y5 y6 y7; have yf := look_unfrozen kb1; have yf0 := yf 0; have yf1 := yf 1; have yf2 := yf 2; have yf3 := yf 3; have yf4 := yf 4; have yf5 := yf 5; have yf6 := yf 6; have yf7 := yf 7; have kne : ¬ w.heap.size = w4.heap.size := (by omega); have kne2 : ¬ w4.heap.size = w.heap.size := (by omega); have klt : w.heap.size < w4.heap.size := kb2; have HB1 := hide kb1; have HB3 := hide kb3; simp only [nodeV, NodeM.cells]; simp only [keyN, Key.mk.injEq] at hq; obtain ⟨rfl, rfl, rfl⟩ := hq; clear hb4 kb1 kb2 kb3 yf))
  have R := fun o => look_fin w w4 (unhide HB1) (unhide HB3) klt o
  unfold zRow at R
  exact bodyPost_ret (v := .tuple #[.agg zRow, .bool false]) (known_ret _ w.heap.size zRow rfl (R _).1 _ _ rfl rfl) rfl ⟨rfl, (R _).2⟩

set_option maxHeartbeats 4000000 in
theorem look_no3 (ha : ArK w base bA ks FA) {bP bM : Nat} {p : PartM} {v : Value} {ms : List (Option Cal)} (h : StkAt w base bK bP bM bA p v ms) {i : Nat} (hi : ms[i]? = some none) (hk : keyAt ks (i : Int) = none) : Calls Try.prog 68 #[.pointer (some ⟨bK, 0, none⟩), .int .i64 (i : Int)] w fun e w' =>
    e = .returned (.tuple #[.agg zRow, .bool false]) ∧ Below w.heap.size w w' := by
  have hb0 := below_new w (.cells zRow 103)
  have h' := h.below hb0
  have HM := hide (made_s h')
  obtain ⟨s0, s1, s2⟩ := h'.cells
  obtain ⟨m0, _⟩ := h'.memo.cells
  have HKB := hide (look_kb w)
  have hi0 : (0 : Int) ≤ (i : Int) := by omega
  have hin0 : ¬ (i : Int) < 0 := by omega
  obtain ⟨g, cap, rfl, hat⟩ := h'.memo.at hi
  have hlt : (i : Int) < (ms.length : Int) := by have := (List.getElem?_eq_some_iff.1 hi).1; omega
  have a7 := hat 7 (by omega)
  simp only [eCells, zRow, List.getElem?_cons_zero, List.getElem?_cons_succ] at a7
  have HN := hide (node_k_no (ha.below hb0) hk)
  generalize ms.length = len at *
  clear h h' ha hi hk hb0 hat
  unfold zRow at HM HN HKB s0 s1 s2 m0
  go_enter Try.func68, Try.ntmps68
  go_wp2_with (first | (go_at_call 55; refine (unhide HM).mono ?_; rintro e w1 ⟨rfl, rfl⟩) | (go_at_call 18; refine (unhide HN).mono ?_; rintro e w4 ⟨rfl, hb4⟩; obtain ⟨kb1, kb2, kb3⟩ := (unhide HKB) w4 hb4; have y0 := (cell_row _ _ 0 _ _ _ kb1).trans (List.getElem?_toArray ..); have y1 := (cell_row _ _ 1 _ _ _ kb1).trans (List.getElem?_toArray ..); have y2 := (cell_row _ _ 2 _ _ _ kb1).trans (List.getElem?_toArray ..); have y3 := (cell_row _ _ 3 _ _ _ kb1).trans (List.getElem?_toArray ..); have y4 := (cell_row _ _ 4 _ _ _ kb1).trans (List.getElem?_toArray ..); have y5 := (cell_row _ _ 5 _ _ _ kb1).trans (List.getElem?_toArray ..); have y6 := (cell_row _ _ 6 _ _ _ kb1).trans (List.getElem?_toArray ..); have y7 := (cell_row _ _ 7 _ _ _ kb1).trans (List.getElem?_toArray ..); simp only [List.getElem?_cons_zero, List.getElem?_cons_succ] at y0 y1 y2 y3 y4 y5 y6 y7; have yf := look_unfrozen kb1; have yf0 := yf 0; have yf1 := yf 1; have yf2 := yf 2; have yf3 := yf 3; have yf4 := yf 4; have yf5 := yf 5; have yf6 := yf 6; have yf7 := yf 7; have kne : ¬ w.heap.size = w4.heap.size := (by omega); have kne2 : ¬ w4.heap.size = w.heap.size := (by omega); have klt : w.heap.size < w4.heap.size := kb2; have HB1 := hide kb1; have HB3 := hide kb3; unfold nodeZ; clear hb4 kb1 kb2 kb3 yf))
  have R := fun o => look_fin w w4 (unhide HB1) (unhide HB3) klt o
  unfold zRow at R
  exact bodyPost_ret (v := .tuple #[.agg zRow, .bool false]) (known_ret _ w.heap.size zRow rfl (R _).1 _ _ rfl rfl) rfl ⟨rfl, (R _).2⟩

set_option maxHeartbeats 4000000 in
theorem look_no4 (ha : ArK w base bA ks FA) {bP bM : Nat} {p : PartM} {v : Value} {ms : List (Option Cal)} (h : StkAt w base bK bP bM bA p v ms) {i : Nat} (hi : ms[i]? = some none) {q : Key} (hk : keyAt ks (i : Int) = some q) (hq1 : q.kind ≠ 1) : Calls Try.prog 68 #[.pointer (some ⟨bK, 0, none⟩), .int .i64 (i : Int)] w fun e w' =>
    e = .returned (.tuple #[.agg zRow, .bool false]) ∧ Below w.heap.size w w' := by
  have hb0 := below_new w (.cells zRow 103)
  have h' := h.below hb0
  have HM := hide (made_s h')
  obtain ⟨s0, s1, s2⟩ := h'.cells
  obtain ⟨m0, _⟩ := h'.memo.cells
  have HKB := hide (look_kb w)
  have hi0 : (0 : Int) ≤ (i : Int) := by omega
  have hin0 : ¬ (i : Int) < 0 := by omega
  obtain ⟨g, cap, rfl, hat⟩ := h'.memo.at hi
  have hlt : (i : Int) < (ms.length : Int) := by have := (List.getElem?_eq_some_iff.1 hi).1; omega
  have a7 := hat 7 (by omega)
  simp only [eCells, zRow, List.getElem?_cons_zero, List.getElem?_cons_succ] at a7
  have HN := hide (node_k (ha.below hb0) hk)
  obtain ⟨qk, qs, qn⟩ := q
  have hq1' : (qk != 1) = true := by simpa using hq1
  clear hq1
  generalize ms.length = len at *
  clear h h' ha hi hk hb0 hat
  unfold zRow at HM HN HKB s0 s1 s2 m0
  go_enter Try.func68, Try.ntmps68
  go_wp2_with (first | (go_at_call 55; refine (unhide HM).mono ?_; rintro e w1 ⟨rfl, rfl⟩) | (go_at_call 18; refine (unhide HN).mono ?_; rintro e w4 ⟨n, ao, mm, cc, rfl, hq, hb4⟩; obtain ⟨nk, nsp, nnm, nav, nda, nsy, npa, nfi, nla, npr, nne, nin, nat⟩ := n; obtain ⟨kb1, kb2, kb3⟩ := (unhide HKB) w4 hb4; have y0 := (cell_row _ _ 0 _ _ _ kb1).trans (List.getElem?_toArray ..); have y1 := (cell_row _ _ 1 _ _ _ kb1).trans (List.getElem?_toArray ..); have y2 := (cell_row _ _ 2 _ _ _ kb1).trans (List.getElem?_toArray ..); have y3 := (cell_row _ _ 3 _ _ _ kb1).trans (List.getElem?_toArray ..); have y4 := (cell_row _ _ 4 _ _ _ kb1).trans (List.getElem?_toArray ..); have y5 := (cell_row _ _ 5 _ _ _ kb1).trans (List.getElem?_toArray ..); have y6 := (cell_row _ _ 6 _ _ _ kb1).trans (List.getElem?_toArray ..); have y7 := (cell_row _ _ 7 _ _ _ kb1).trans (List.getElem?_toArray ..); simp only [List.getElem?_cons_zero, List.getElem?_cons_succ] at y0 y1 y2 y3 y4 y5 y6 y7; have yf := look_unfrozen kb1; have yf0 := yf 0; have yf1 := yf 1; have yf2 := yf 2; have yf3 := yf 3; have yf4 := yf 4; have yf5 := yf 5; have yf6 := yf 6; have yf7 := yf 7; have kne : ¬ w.heap.size = w4.heap.size := (by omega); have kne2 : ¬ w4.heap.size = w.heap.size := (by omega); have klt : w.heap.size < w4.heap.size := kb2; have HB1 := hide kb1; have HB3 := hide kb3; simp only [nodeV, NodeM.cells]; simp only [keyN, Key.mk.injEq] at hq; obtain ⟨rfl, rfl, rfl⟩ := hq; clear hb4 kb1 kb2 kb3 yf))
  have R := fun o => look_fin w w4 (unhide HB1) (unhide HB3) klt o
  unfold zRow at R
  exact bodyPost_ret (v := .tuple #[.agg zRow, .bool false]) (known_ret _ w.heap.size zRow rfl (R _).1 _ _ rfl rfl) rfl ⟨rfl, (R _).2⟩
end
end Go.Proofs.Ytmllhebmaldgfaa
