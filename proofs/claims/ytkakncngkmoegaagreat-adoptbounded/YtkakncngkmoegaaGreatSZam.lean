/-
  No element: nothing is told, nothing is kept. A stack while its memo grows. An element that is not kept yet: it is kept, and told.
-/
import Derived.Test.YtkakncngkmoegaaGreatSZal
import Derived.Deep.AppendLies
import Derived.Deep.RegionHeld3
namespace Go.Proofs.YtkakncngkmoegaaGreat
open Go.RowKit

section
variable {w : World} {base bK bA : Nat} {ks : List Key} {L : List Int} {F FA : Nat → Prop}
theorem look_kb (w : World) : ∀ w4, Below (w.alloc (.cells zRow 188)).heap.size (w.alloc (.cells zRow 188)) w4 → w4.heap[w.heap.size]? = some (.cells zRow 188 (0, 0)) ∧ w.heap.size < w4.heap.size ∧ Below w.heap.size w w4 := fun w4 hb4 => by
  have hs := hb4.size
  rw [World.size_alloc] at hs
  exact ⟨(hb4.block _ (by rw [World.size_alloc]; omega)).trans (heap_alloc_new w _), by omega, (below_new w _).trans (hb4.mono (by rw [World.size_alloc]; omega))⟩
theorem look_unfrozen {w4 : World} {b : Nat} {cs : Array Value} {t : TypeId} (h : w4.heap[b]? = some (.cells cs t (0, 0))) : ∀ j : Nat, w4.frozen? ⟨b, j, none⟩ = false := fun j => by simp [World.frozen?, h]
theorem look_fin (w w4 : World) (h1 : w4.heap[w.heap.size]? = some (.cells zRow 188 (0, 0))) (h3 : Below w.heap.size w w4) (hlt : w.heap.size < w4.heap.size) (o : Obj) :
    (((((((((w4.setCell ⟨w.heap.size, 0, none⟩ (.int .i64 0)).setCell ⟨w.heap.size, 1, none⟩ (.string ⟨#[]⟩)).setCell ⟨w.heap.size, 2, none⟩ (.bool false)).setCell ⟨w.heap.size, 3, none⟩ (.bool false)).setCell ⟨w.heap.size, 4, none⟩ (.bool false)).setCell ⟨w.heap.size, 5, none⟩ (.bool false)).setCell ⟨w.heap.size, 6, none⟩ (.bool false)).setCell ⟨w.heap.size, 7, none⟩ (.bool false)).alloc o).heap[w.heap.size]? = some (.cells zRow 188 (0, 0)) ∧
    Below w.heap.size w (((((((((w4.setCell ⟨w.heap.size, 0, none⟩ (.int .i64 0)).setCell ⟨w.heap.size, 1, none⟩ (.string ⟨#[]⟩)).setCell ⟨w.heap.size, 2, none⟩ (.bool false)).setCell ⟨w.heap.size, 3, none⟩ (.bool false)).setCell ⟨w.heap.size, 4, none⟩ (.bool false)).setCell ⟨w.heap.size, 5, none⟩ (.bool false)).setCell ⟨w.heap.size, 6, none⟩ (.bool false)).setCell ⟨w.heap.size, 7, none⟩ (.bool false)).alloc o) := by
  unfold zRow at h1
  obtain ⟨e1, e2⟩ := eight_block w4 w.heap.size (.int .i64 0) (.string ⟨#[]⟩) (.bool false) (.bool false) (.bool false) (.bool false) (.bool false) (.bool false) _ _ _ _ _ _ _ _ _ h1
  have e3 := e2.below h3.size (fun k hk => by omega)
  have hs := e2.size
  exact ⟨(Below.heap_alloc _ _ _ (by omega)).trans e1, (h3.trans e3).alloc (Nat.le_trans h3.size hs) _⟩

set_option maxHeartbeats 4000000 in
theorem look_no1 (ha : ArK w base bA ks FA) {bP bM : Nat} {p : PartM} {v : Value} {ms : List (Option Cal)} (h : StkAt w base bK bP bM bA p v ms) {i : Nat} (hi : ms.length ≤ i) (hk : keyAt ks (i : Int) = none) : Calls Tryz.prog 144 #[.pointer (some ⟨bK, 0, none⟩), .int .i64 (i : Int)] w fun e w' =>
    e = .returned (.tuple #[.agg zRow, .bool false]) ∧ Below w.heap.size w w' := by
  have hb0 := below_new w (.cells zRow 188)
  have h' := h.below hb0
  have HM := hide (made_s h')
  obtain ⟨s0, s1, s2⟩ := h'.cells
  obtain ⟨m0, _⟩ := h'.memo.cells
  have HKB := hide (look_kb w)
  have hi0 : (0 : Int) ≤ (i : Int) := by omega
  have hin0 : ¬ (i : Int) < 0 := by omega
  obtain ⟨a, cap, rfl⟩ := h'.memo.len
  have hge : ¬ (i : Int) < (ms.length : Int) := by omega
  have HN := hide (node_k_no (ha.below hb0) hk)
  generalize ms.length = len at *
  clear h h' ha hi hk hb0
  unfold zRow at HM HN HKB s0 s1 s2 m0
  go_enter Tryz.func144, Tryz.ntmps144
  go_wp2_with (first | (go_at_call 48; refine (unhide HM).mono ?_; rintro e w1 ⟨rfl, rfl⟩) | (go_at_call 14; refine (unhide HN).mono ?_; rintro e w4 ⟨rfl, hb4⟩; obtain ⟨kb1, kb2, kb3⟩ := (unhide HKB) w4 hb4; have y0 := (cell_row _ _ 0 _ _ _ kb1).trans (List.getElem?_toArray ..); have y1 := (cell_row _ _ 1 _ _ _ kb1).trans (List.getElem?_toArray ..); have y2 := (cell_row _ _ 2 _ _ _ kb1).trans (List.getElem?_toArray ..); have y3 := (cell_row _ _ 3 _ _ _ kb1).trans (List.getElem?_toArray ..); have y4 := (cell_row _ _ 4 _ _ _ kb1).trans (List.getElem?_toArray ..); have y5 := (cell_row _ _ 5 _ _ _ kb1).trans (List.getElem?_toArray ..); have y6 := (cell_row _ _ 6 _ _ _ kb1).trans (List.getElem?_toArray ..); have y7 := (cell_row _ _ 7 _ _ _ kb1).trans (List.getElem?_toArray ..); simp only [List.getElem?_cons_zero, List.getElem?_cons_succ] at y0 y1 y2 y3 y4 y5 y6 y7; have yf := look_unfrozen kb1; have yf0 := yf 0; have yf1 := yf 1; have yf2 := yf 2; have yf3 := yf 3; have yf4 := yf 4; have yf5 := yf 5; have yf6 := yf 6; have yf7 := yf 7; have kne : ¬ w.heap.size = w4.heap.size := (by omega); have kne2 : ¬ w4.heap.size = w.heap.size := (by omega); have klt : w.heap.size < w4.heap.size := kb2; have HB1 := hide kb1; have HB3 := hide kb3; unfold nodeZ; clear hb4 kb1 kb2 kb3 yf))
  have R := fun o => look_fin w w4 (unhide HB1) (unhide HB3) klt o
  unfold zRow at R
  exact bodyPost_ret (v := .tuple #[.agg zRow, .bool false]) (known_ret _ w.heap.size zRow rfl (R _).1 _ _ rfl rfl) rfl ⟨rfl, (R _).2⟩

set_option maxHeartbeats 4000000 in
theorem look_no2 (ha : ArK w base bA ks FA) {bP bM : Nat} {p : PartM} {v : Value} {ms : List (Option Cal)} (h : StkAt w base bK bP bM bA p v ms) {i : Nat} (hi : ms.length ≤ i) {q : Key} (hk : keyAt ks (i : Int) = some q) (hq1 : q.kind ≠ 1) : Calls Tryz.prog 144 #[.pointer (some ⟨bK, 0, none⟩), .int .i64 (i : Int)] w fun e w' =>
    e = .returned (.tuple #[.agg zRow, .bool false]) ∧ Below w.heap.size w w' := by
  have hb0 := below_new w (.cells zRow 188)
  have h' := h.below hb0
  have HM := hide (made_s h')
  obtain ⟨s0, s1, s2⟩ := h'.cells
  obtain ⟨m0, _⟩ := h'.memo.cells
  have HKB := hide (look_kb w)
  have hi0 : (0 : Int) ≤ (i : Int) := by omega
  have hin0 : ¬ (i : Int) < 0 := by omega
  obtain ⟨a, cap, rfl⟩ := h'.memo.len
  have hge : ¬ (i : Int) < (ms.length : Int) := by omega
  have HN := hide (node_k (ha.below hb0) hk)
  obtain ⟨qk, qs, qn⟩ := q
  have hq1' : (qk != 1) = true := by simpa using hq1
  clear hq1
  generalize ms.length = len at *
  clear h h' ha hi hk hb0
  unfold zRow at HM HN HKB s0 s1 s2 m0
  go_enter Tryz.func144, Tryz.ntmps144
  go_wp2_with (first | (go_at_call 48; refine (unhide HM).mono ?_; rintro e w1 ⟨rfl, rfl⟩) | (go_at_call 14; refine (unhide HN).mono ?_; rintro e w4 ⟨n, ao, mm, cc, rfl, hq, hb4⟩; obtain ⟨nk, nsp, nnm, nav, nda, nsy, npa, nfi, nla, npr, nne, nin, nat⟩ := n; obtain ⟨kb1, kb2, kb3⟩ := (unhide HKB) w4 hb4; have y0 := (cell_row _ _ 0 _ _ _ kb1).trans (List.getElem?_toArray ..); have y1 := (cell_row _ _ 1 _ _ _ kb1).trans (List.getElem?_toArray ..); have y2 := (cell_row _ _ 2 _ _ _ kb1).trans (List.getElem?_toArray ..); have y3 := (cell_row _ _ 3 _ _ _ kb1).trans (List.getElem?_toArray ..); have y4 := (cell_row _ _ 4 _ _ _ kb1).trans (List.getElem?_toArray ..); have y5 := (cell_row _ _ 5 _ _ _ kb1).trans (List.getElem?_toArray ..); have y6 := (cell_row _ _ 6 _ _ _ kb1).trans (List.getElem?_toArray ..); have y7 := (cell_row _ _ 7 _ _ _ kb1).trans (List.getElem?_toArray ..); simp only [List.getElem?_cons_zero, List.getElem?_cons_succ] at y0 y1 y2 y3 y4 y5 y6 y7; have yf := look_unfrozen kb1; have yf0 := yf 0; have yf1 := yf 1; have yf2 := yf 2; have yf3 := yf 3; have yf4 := yf 4; have yf5 := yf 5; have yf6 := yf 6; have yf7 := yf 7; have kne : ¬ w.heap.size = w4.heap.size := (by omega); have kne2 : ¬ w4.heap.size = w.heap.size := (by omega); have klt : w.heap.size < w4.heap.size := kb2; have HB1 := hide kb1; have HB3 := hide kb3; simp only [nodeV, NodeM.cells]; simp only [keyN, Key.mk.injEq] at hq; obtain ⟨rfl, rfl, rfl⟩ := hq; clear hb4 kb1 kb2 kb3 yf))
  have R := fun o => look_fin w w4 (unhide HB1) (unhide HB3) klt o
  unfold zRow at R
  exact bodyPost_ret (v := .tuple #[.agg zRow, .bool false]) (known_ret _ w.heap.size zRow rfl (R _).1 _ _ rfl rfl) rfl ⟨rfl, (R _).2⟩

set_option maxHeartbeats 4000000 in
theorem look_no3 (ha : ArK w base bA ks FA) {bP bM : Nat} {p : PartM} {v : Value} {ms : List (Option Cal)} (h : StkAt w base bK bP bM bA p v ms) {i : Nat} (hi : ms[i]? = some none) (hk : keyAt ks (i : Int) = none) : Calls Tryz.prog 144 #[.pointer (some ⟨bK, 0, none⟩), .int .i64 (i : Int)] w fun e w' =>
    e = .returned (.tuple #[.agg zRow, .bool false]) ∧ Below w.heap.size w w' := by
  have hb0 := below_new w (.cells zRow 188)
  have h' := h.below hb0
  have HM := hide (made_s h')
  obtain ⟨s0, s1, s2⟩ := h'.cells
  obtain ⟨m0, _⟩ := h'.memo.cells
  have HKB := hide (look_kb w)
  have hi0 : (0 : Int) ≤ (i : Int) := by omega
  have hin0 : ¬ (i : Int) < 0 := by omega
  obtain ⟨g, cap, rfl, hat⟩ := h'.memo.at hi
  have hlt : (i : Int) < (ms.length : Int) := by have := (List.getElem?_eq_some_iff.1 hi).1; omega
  have a7 := hat 7 (by omega)
  simp only [eCells, zRow, List.getElem?_cons_zero, List.getElem?_cons_succ] at a7
  have HN := hide (node_k_no (ha.below hb0) hk)
  generalize ms.length = len at *
  clear h h' ha hi hk hb0 hat
  unfold zRow at HM HN HKB s0 s1 s2 m0
  go_enter Tryz.func144, Tryz.ntmps144
  go_wp2_with (first | (go_at_call 48; refine (unhide HM).mono ?_; rintro e w1 ⟨rfl, rfl⟩) | (go_at_call 14; refine (unhide HN).mono ?_; rintro e w4 ⟨rfl, hb4⟩; obtain ⟨kb1, kb2, kb3⟩ := (unhide HKB) w4 hb4; have y0 := (cell_row _ _ 0 _ _ _ kb1).trans (List.getElem?_toArray ..); have y1 := (cell_row _ _ 1 _ _ _ kb1).trans (List.getElem?_toArray ..); have y2 := (cell_row _ _ 2 _ _ _ kb1).trans (List.getElem?_toArray ..); have y3 := (cell_row _ _ 3 _ _ _ kb1).trans (List.getElem?_toArray ..); have y4 := (cell_row _ _ 4 _ _ _ kb1).trans (List.getElem?_toArray ..); have y5 := (cell_row _ _ 5 _ _ _ kb1).trans (List.getElem?_toArray ..); have y6 := (cell_row _ _ 6 _ _ _ kb1).trans (List.getElem?_toArray ..); have y7 := (cell_row _ _ 7 _ _ _ kb1).trans (List.getElem?_toArray ..); simp only [List.getElem?_cons_zero, List.getElem?_cons_succ] at y0 y1 y2 y3 y4 y5 y6 y7; have yf := look_unfrozen kb1; have yf0 := yf 0; have yf1 := yf 1; have yf2 := yf 2; have yf3 := yf 3; have yf4 := yf 4; have yf5 := yf 5; have yf6 := yf 6; have yf7 := yf 7; have kne : ¬ w.heap.size = w4.heap.size := (by omega); have kne2 : ¬ w4.heap.size = w.heap.size := (by omega); have klt : w.heap.size < w4.heap.size := kb2; have HB1 := hide kb1; have HB3 := hide kb3; unfold nodeZ; clear hb4 kb1 kb2 kb3 yf))
  have R := fun o => look_fin w w4 (unhide HB1) (unhide HB3) klt o
  unfold zRow at R
  exact bodyPost_ret (v := .tuple #[.agg zRow, .bool false]) (known_ret _ w.heap.size zRow rfl (R _).1 _ _ rfl rfl) rfl ⟨rfl, (R _).2⟩

set_option maxHeartbeats 4000000 in
theorem look_no4 (ha : ArK w base bA ks FA) {bP bM : Nat} {p : PartM} {v : Value} {ms : List (Option Cal)} (h : StkAt w base bK bP bM bA p v ms) {i : Nat} (hi : ms[i]? = some none) {q : Key} (hk : keyAt ks (i : Int) = some q) (hq1 : q.kind ≠ 1) : Calls Tryz.prog 144 #[.pointer (some ⟨bK, 0, none⟩), .int .i64 (i : Int)] w fun e w' =>
    e = .returned (.tuple #[.agg zRow, .bool false]) ∧ Below w.heap.size w w' := by
  have hb0 := below_new w (.cells zRow 188)
  have h' := h.below hb0
  have HM := hide (made_s h')
  obtain ⟨s0, s1, s2⟩ := h'.cells
  obtain ⟨m0, _⟩ := h'.memo.cells
  have HKB := hide (look_kb w)
  have hi0 : (0 : Int) ≤ (i : Int) := by omega
  have hin0 : ¬ (i : Int) < 0 := by omega
  obtain ⟨g, cap, rfl, hat⟩ := h'.memo.at hi
  have hlt : (i : Int) < (ms.length : Int) := by have := (List.getElem?_eq_some_iff.1 hi).1; omega
  have a7 := hat 7 (by omega)
  simp only [eCells, zRow, List.getElem?_cons_zero, List.getElem?_cons_succ] at a7
  have HN := hide (node_k (ha.below hb0) hk)
  obtain ⟨qk, qs, qn⟩ := q
  have hq1' : (qk != 1) = true := by simpa using hq1
  clear hq1
  generalize ms.length = len at *
  clear h h' ha hi hk hb0 hat
  unfold zRow at HM HN HKB s0 s1 s2 m0
  go_enter Tryz.func144, Tryz.ntmps144
  go_wp2_with (first | (go_at_call 48; refine (unhide HM).mono ?_; rintro e w1 ⟨rfl, rfl⟩) | (go_at_call 14; refine (unhide HN).mono ?_; rintro e w4 ⟨n, ao, mm, cc, rfl, hq, hb4⟩; obtain ⟨nk, nsp, nnm, nav, nda, nsy, npa, nfi, nla, npr, nne, nin, nat⟩ := n; obtain ⟨kb1, kb2, kb3⟩ := (unhide HKB) w4 hb4; have y0 := (cell_row _ _ 0 _ _ _ kb1).trans (List.getElem?_toArray ..); have y1 := (cell_row _ _ 1 _ _ _ kb1).trans (List.getElem?_toArray ..); have y2 := (cell_row _ _ 2 _ _ _ kb1).trans (List.getElem?_toArray ..); have y3 := (cell_row _ _ 3 _ _ _ kb1).trans (List.getElem?_toArray ..); have y4 := (cell_row _ _ 4 _ _ _ kb1).trans (List.getElem?_toArray ..); have y5 := (cell_row _ _ 5 _ _ _ kb1).trans (List.getElem?_toArray ..); have y6 := (cell_row _ _ 6 _ _ _ kb1).trans (List.getElem?_toArray ..); have y7 := (cell_row _ _ 7 _ _ _ kb1).trans (List.getElem?_toArray ..); simp only [List.getElem?_cons_zero, List.getElem?_cons_succ] at y0 y1 y2 y3 y4 y5 y6 y7; have yf := look_unfrozen kb1; have yf0 := yf 0; have yf1 := yf 1; have yf2 := yf 2; have yf3 := yf 3; have yf4 := yf 4; have yf5 := yf 5; have yf6 := yf 6; have yf7 := yf 7; have kne : ¬ w.heap.size = w4.heap.size := (by omega); have kne2 : ¬ w4.heap.size = w.heap.size := (by omega); have klt : w.heap.size < w4.heap.size := kb2; have HB1 := hide kb1; have HB3 := hide kb3; simp only [nodeV, NodeM.cells]; simp only [keyN, Key.mk.injEq] at hq; obtain ⟨rfl, rfl, rfl⟩ := hq; clear hb4 kb1 kb2 kb3 yf))
  have R := fun o => look_fin w w4 (unhide HB1) (unhide HB3) klt o
  unfold zRow at R
  exact bodyPost_ret (v := .tuple #[.agg zRow, .bool false]) (known_ret _ w.heap.size zRow rfl (R _).1 _ _ rfl rfl) rfl ⟨rfl, (R _).2⟩
end
end Go.Proofs.YtkakncngkmoegaaGreat

namespace Go.Proofs.YtkakncngkmoegaaGreat
open Go.RowKit

theorem Tryz.info188 : (Tryz.prog.info? 188).map (fun i => (i.zero, i.size, i.bytes)) = some (some (.agg zRow), 8, 32) := by kernel_rfl

/-- What becomes of the memo, of the stack's blocks. -/
theorem StkAt.updK {w w' : World} {base bK bP bM bA : Nat} {p : PartM} {v v' : Value} {ms ms' : List (Option Cal)} (h : StkAt w base bK bP bM bA p v ms) (h1 : KnM w' base bM v' ms') (h3 : Mod (footM bM v) w w') (h4 : ∀ k, footM bM v' k → footM bM v k ∨ w.heap.size ≤ k) : StkAt w' base bK bP bM bA p v' ms' :=
  ⟨(h3.block bK h.lt h.neM).trans h.box, h.pile.mod h3 (fun k hk e => h.apart k hk e), h1, fun k hk hk2 => by
    rcases h4 k hk2 with e | e
    · exact h.apart k hk e
    · have := (h.pile.foot_lt hk).2
      omega, h.lo⟩

/-- A stack whose memo may have grown since w0. -/
structure LkS (w0 wr : World) (base bK bP bM bA : Nat) (p : PartM) (el : Int → Option Cal) (F : Nat → Prop) (v : Value) (ms : List (Option Cal)) : Prop where
  stk : StkAt wr base bK bP bM bA p v ms
  coh : Coh el ms
  mod : Mod F w0 wr
  foot : ∀ k, footS bK bP bM p v k → F k ∨ w0.heap.size ≤ k

theorem cell_kept {w W' : World} (hb : Below w.heap.size w W') {b o : Nat} {v : Value} (hv : w.cell? ⟨b, o, none⟩ = some v) : W'.cell? ⟨b, o, none⟩ = some v :=
  (hb.cell (p := ⟨b, o, none⟩) (World.block_lt_of_cell? w _ hv)).trans hv
theorem bput {b j : Nat} {w W : World} {v : Value} (h : Below w.heap.size w W) (hb : w.heap.size ≤ b) : Below w.heap.size w (W.setCell ⟨b, j, none⟩ v) := h.trans ((Mod.setCell (F := fun k => k = b) W ⟨b, j, none⟩ v rfl).below h.size (fun k e => by omega))
theorem balloc {w W : World} {o : Obj} (h : Below w.heap.size w W) : Below w.heap.size w (W.alloc o) := h.alloc h.size o
theorem bdrew {w W : World} (h : Below w.heap.size w W) : Below w.heap.size w W.drew := h.drew
theorem own_drew {W : World} {base : Nat} {t : TypeId} {n m : Nat} {v : Value} {xs : List Value} (h : W.ownsRow base t n v m xs) : W.drew.ownsRow base t n v m xs := h
theorem cell_drew {W : World} {a : Addr} {u : Value} (h : W.cell? a = some u) : W.drew.cell? a = some u := h

section
variable {w0 wr w1 : World} {base bK bP bM bA : Nat} {p : PartM} {el : Int → Option Cal} {F : Nat → Prop} {v v' : Value} {ms : List (Option Cal)}
theorem LkS.start (h : StkAt w0 base bK bP bM bA p v ms) (hc : Coh el ms) (hF : ∀ k, F k ↔ footS bK bP bM p v k) : LkS w0 w0 base bK bP bM bA p el F v ms :=
  ⟨h, hc, Mod.of_below (Below.refl _ _), fun k hk => .inl ((hF k).2 hk)⟩
theorem LkS.upd (h : LkS w0 wr base bK bP bM bA p el F v ms) : UpdS F w0 wr base bK bA el p.xs :=
  ⟨footS bK bP bM p v, ⟨bP, bM, p, v, ms, h.stk, h.coh, rfl, fun _ => Iff.rfl⟩, h.mod, h.foot⟩
theorem LkS.then (h : LkS w0 wr base bK bP bM bA p el F v ms) (hb : Below wr.heap.size wr w1) : LkS w0 w1 base bK bP bM bA p el F v ms :=
  ⟨h.stk.below hb, h.coh, h.mod.trans (Mod.of_below hb), h.foot⟩
/-- The memo becomes another one. -/
theorem LkS.step {ms' : List (Option Cal)} (h : LkS w0 wr base bK bP bM bA p el F v ms) (h1 : KnM w1 base bM v' ms') (hc : Coh el ms') (h3 : Mod (footM bM v) wr w1) (h4 : ∀ k, footM bM v' k → footM bM v k ∨ wr.heap.size ≤ k) : LkS w0 w1 base bK bP bM bA p el F v' ms' := by
  refine ⟨h.stk.updK h1 h3 h4, hc, h.mod.then h3 (fun k hk => h.foot k (.inr (.inr hk))), fun k hk => ?_⟩
  rcases hk with e | e | e
  · exact h.foot k (.inl e)
  · exact h.foot k (.inr (.inl e))
  · rcases h4 k e with e | e
    · exact h.foot k (.inr (.inr e))
    · exact .inr (Nat.le_trans h.mod.size e)
/-- A place more. -/
theorem LkS.grow {W : World} (h : LkS w0 wr base bK bP bM bA p el F v ms) (hb : Below wr.heap.size wr W) (hW : wr.heap.size + 1 = W.heap.size) (hown : w1.ownsRow base 188 8 v' (ms.length + 1) (mRow ms ++ zRow.toList)) (hgrow : W.grownBy w1 v.ownBlock) (hv : ∀ k, v'.ownBlock = some k → v.ownBlock = some k ∨ wr.heap.size + 1 ≤ k) :
    LkS w0 (w1.setCell ⟨bM, 0, none⟩ v') base bK bP bM bA p el F v' (ms ++ [none]) ∧ w1.cell? ⟨bM, 0, none⟩ = some v ∧ w1.frozen? ⟨bM, 0, none⟩ = false ∧ w1.cell? ⟨bK, 0, none⟩ = some (.pointer (some ⟨bA, 0, none⟩)) ∧ w1.cell? ⟨bK, 2, none⟩ = some (.pointer (some ⟨bM, 0, none⟩)) := by
  have h2 := h.then hb
  have hm : Mod (fun k => v.ownBlock = some k) W w1 := Mod.grown hgrow (fun k e => e)
  have hbM := (hm.block bM (lt_of_block h2.stk.memo.box) (fun e => by
    obtain ⟨cur, hc⟩ := ownsRow_block h2.stk.memo.own e
    rw [h2.stk.memo.box] at hc
    cases hc)).trans h2.stk.memo.box
  have hbK := (hm.block bK h2.stk.lt (fun e => h2.stk.neM (.inr e))).trans h2.stk.box
  obtain ⟨g1, g2, g3⟩ := h2.stk.memo.grow hown hgrow (fun k hk => (hv k hk).imp id (fun e => by omega))
  refine ⟨h2.step g1 h.coh.grow g2 g3, by simp [World.cell?, hbM], by simp [World.frozen?, hbM], by simp [World.cell?, hbK], by simp [World.cell?, hbK]⟩
/-- A place written. -/
theorem LkS.poke {g cap i : Nat} {c : Cal} (h : LkS w0 wr base bK bP bM bA p el F (.slice (some ⟨g, 0, none⟩) ms.length cap) ms) (hi : i < ms.length) (he : el (i : Int) = some c) :
    LkS w0 ((((((((wr.setCell ⟨g, i * 8, none⟩ (.int .i64 c.space)).setCell ⟨g, i * 8 + 1, none⟩ (.string c.name)).setCell ⟨g, i * 8 + 2, none⟩ (.bool (bAt c 5 0))).setCell ⟨g, i * 8 + 3, none⟩ (.bool (bAt c 5 1))).setCell ⟨g, i * 8 + 4, none⟩ (.bool (bAt c 5 2))).setCell ⟨g, i * 8 + 5, none⟩ (.bool (bAt c 5 3))).setCell ⟨g, i * 8 + 6, none⟩ (.bool (bAt c 5 4))).setCell ⟨g, i * 8 + 7, none⟩ (.bool true)) base bK bP bM bA p el F (.slice (some ⟨g, 0, none⟩) ms.length cap) (ms.set i (some c)) := by
  obtain ⟨h1, h2⟩ := h.stk.memo.poke c hi
  exact h.step h1 (h.coh.poke he) (h2.mono fun k _ e => .inr (by rw [e]; rfl)) (fun k hk => .inl hk)
/-- The cells of a place: there are eight, and they may be written. -/
theorem KnM.eight {w : World} {g cap i : Nat} (h : KnM w base bM (.slice (some ⟨g, 0, none⟩) ms.length cap) ms) (hi : i < ms.length) : ∃ e0 e1 e2 e3 e4 e5 e6 e7 : Value, w.cell? ⟨g, i * 8, none⟩ = some e0 ∧ w.cell? ⟨g, i * 8 + 1, none⟩ = some e1 ∧ w.cell? ⟨g, i * 8 + 2, none⟩ = some e2 ∧ w.cell? ⟨g, i * 8 + 3, none⟩ = some e3 ∧ w.cell? ⟨g, i * 8 + 4, none⟩ = some e4 ∧ w.cell? ⟨g, i * 8 + 5, none⟩ = some e5 ∧ w.cell? ⟨g, i * 8 + 6, none⟩ = some e6 ∧ w.cell? ⟨g, i * 8 + 7, none⟩ = some e7 ∧ ∀ k : Nat, w.frozen? ⟨g, k, none⟩ = false := by
  obtain ⟨g', cap', e, hat⟩ := h.at (List.getElem?_eq_getElem hi)
  cases e
  have hl := eCells_len ms[i]
  obtain ⟨cur, hc⟩ := ownsRow_block h.own (k := g) rfl
  have f : ∀ j, (hj : j < 8) → w.cell? ⟨g, i * 8 + j, none⟩ = some ((eCells ms[i])[j]'(by omega)) := fun j hj => (hat j hj).trans (List.getElem?_eq_getElem (by omega))
  exact ⟨_, _, _, _, _, _, _, _, f 0 (by omega), f 1 (by omega), f 2 (by omega), f 3 (by omega), f 4 (by omega), f 5 (by omega), f 6 (by omega), f 7 (by omega), fun k => by simp [World.frozen?, hc]⟩
/-- What was written is there. -/
theorem KnM.told {w : World} {g cap i : Nat} {c : Cal} (h : KnM w base bM (.slice (some ⟨g, 0, none⟩) ms.length cap) ms) (hi : ms[i]? = some (some c)) : w.cell? ⟨g, i * 8, none⟩ = some (.int .i64 c.space) ∧ w.cell? ⟨g, i * 8 + 1, none⟩ = some (.string c.name) ∧ w.cell? ⟨g, i * 8 + 2, none⟩ = some (.bool (bAt c 5 0)) ∧ w.cell? ⟨g, i * 8 + 3, none⟩ = some (.bool (bAt c 5 1)) ∧ w.cell? ⟨g, i * 8 + 4, none⟩ = some (.bool (bAt c 5 2)) ∧ w.cell? ⟨g, i * 8 + 5, none⟩ = some (.bool (bAt c 5 3)) ∧ w.cell? ⟨g, i * 8 + 6, none⟩ = some (.bool (bAt c 5 4)) ∧ w.cell? ⟨g, i * 8 + 7, none⟩ = some (.bool true) := by
  obtain ⟨g', cap', e, hat⟩ := h.at hi
  cases e
  exact ⟨hat 0 (by omega), hat 1 (by omega), hat 2 (by omega), hat 3 (by omega), hat 4 (by omega), hat 5 (by omega), hat 6 (by omega), hat 7 (by omega)⟩
/-- A block of one's own that was written last. -/
theorem UpdS.behind {w w5 w7 w8 : World} {bA : Nat} {L : List Int} (h : UpdS F w5 w7 base bK bA el L) (h5 : Below w.heap.size w w5) (hlt : w.heap.size < w5.heap.size) (hF : ∀ k, F k → k < w.heap.size) (hm : Mod (fun k => k = w.heap.size) w7 w8) : UpdS F w w8 base bK bA el L := by
  obtain ⟨F', h1, h2, h3⟩ := h
  refine ⟨F', h1.mod hm (fun k hk e => ?_), ((Mod.of_below h5).trans h2).then hm (fun k e => .inr (by omega)), fun k hk => (h3 k hk).imp id (fun e => by omega)⟩
  rcases h3 k hk with e2 | e2
  · have := hF k e2; omega
  · omega
end
end Go.Proofs.YtkakncngkmoegaaGreat

namespace Go.Proofs.YtkakncngkmoegaaGreat
open Go.RowKit

section
variable {w : World} {base bK bA : Nat} {ks : List Key} {L : List Int} {F FA : Nat → Prop}

set_option maxHeartbeats 8000000 in
theorem look_new1 (ha : ArK w base bA ks FA) {bP bM : Nat} {p : PartM} {v : Value} {ms : List (Option Cal)} (h : StkAt w base bK bP bM bA p v ms) (hc : Coh (elOf ks) ms) (hF : ∀ k, F k ↔ footS bK bP bM p v k) {i : Nat} (hi : ms.length ≤ i) {q : Key} (hk : keyAt ks (i : Int) = some q) (hq1 : q.kind = 1) (hm1 : i < 32768) : Calls Tryz.prog 144 #[.pointer (some ⟨bK, 0, none⟩), .int .i64 (i : Int)] w fun e w' =>
    e = .returned (.tuple #[kV ⟨q.space, q.name⟩, .bool true]) ∧ UpdS F w w' base bK bA (elOf ks) p.xs := by
  have hb0 := below_new w (.cells zRow 188)
  have h' := h.below hb0
  have HM := hide (made_s h')
  obtain ⟨s0, s1, s2⟩ := h'.cells
  obtain ⟨m0, _⟩ := h'.memo.cells
  have HKB := hide (look_kb w)
  have HAT := hide h'
  have HCO := hide hc
  have HFF := hide hF
  have HLTF : Hid (∀ k, F k → k < w.heap.size) := hide (fun k hk => (h.foot_lt ((hF k).1 hk)).2)
  have hi0 : (0 : Int) ≤ (i : Int) := by omega
  have hin0 : ¬ (i : Int) < 0 := by omega
  have HEL : Hid (elOf ks (i : Int) = some ⟨q.space, q.name⟩) := hide (by rw [elOf_key hk, if_pos hq1])
  obtain ⟨a, cap, rfl⟩ := h'.memo.len
  have hge : ¬ (i : Int) < (ms.length : Int) := by omega
  have HN := hide (node_k (ha.below hb0) hk)
  obtain ⟨qk, qs, qn⟩ := q
  simp only at hq1 HEL ⊢
  subst hq1
  have HI := hide hm1
  have hlb : ∃ len, ms.length = len := ⟨_, rfl⟩
  obtain ⟨len, hlen⟩ := hlb
  have HLEN := hide hlen
  rw [hlen] at HAT HFF m0 hge
  clear h h' ha hi hk hb0 hc hF hm1 hlen
  unfold zRow at HM HN HAT HKB s0 s1 s2 m0
  go_enter Tryz.func144, Tryz.ntmps144
  go_wp2_with (first | (go_at_call 48; refine (unhide HM).mono ?_; rintro e w1 ⟨rfl, rfl⟩) | (go_at_call 14; refine (unhide HN).mono ?_; rintro e w4 ⟨n, ao, mm, cc, rfl, hq, hb4⟩; obtain ⟨nk, nsp, nnm, nav, nda, nsy, npa, nfi, nla, npr, nne, nin, nat⟩ := n; simp only [nodeV, NodeM.cells]; simp only [keyN, Key.mk.injEq] at hq; obtain ⟨rfl, rfl, rfl⟩ := hq; obtain ⟨kb1, kb2, kb3⟩ := (unhide HKB) w4 hb4; have hx := heap_alloc_new w4 (.cells #[.int .i64 1, .int .i64 nsp, .string nnm, .slice ao mm cc, .string nda, .string nsy, .int .i64 npa, .int .i64 nfi, .int .i64 nla, .int .i64 npr, .int .i64 nne, .int .i64 nin] 47); have HLK := hide (LkS.start (((unhide HAT).below hb4).below (below_new w4 (.cells #[.int .i64 1, .int .i64 nsp, .string nnm, .slice ao mm cc, .string nda, .string nsy, .int .i64 npa, .int .i64 nfi, .int .i64 nla, .int .i64 npr, .int .i64 nne, .int .i64 nin] 47))) (unhide HCO) (unhide HFF)); have HK1 := hide ((Below.heap_alloc w4 (.cells #[.int .i64 1, .int .i64 nsp, .string nnm, .slice ao mm cc, .string nda, .string nsy, .int .i64 npa, .int .i64 nfi, .int .i64 nla, .int .i64 npr, .int .i64 nne, .int .i64 nin] 47) _ kb2).trans kb1); have HK3 := hide (kb3.trans ((below_new w4 (.cells #[.int .i64 1, .int .i64 nsp, .string nnm, .slice ao mm cc, .string nda, .string nsy, .int .i64 npa, .int .i64 nfi, .int .i64 nla, .int .i64 npr, .int .i64 nne, .int .i64 nin] 47)).mono kb3.size)); have HK2 := hide kb2; have HX := hide hx; clear hb4 kb1 kb2 kb3 hx s0 s1 s2 m0))
  go_loopg [63, 64, 65, 66, 67, 68, 69, 70, 71, 72, 73, 74, 75, 76, 77, 78, 79, 80, 81, 82, 83, 84, 85] ((i + 1) - len) (fun g _ _ _ _ _ _ _ _ _ _ _ _ _ _ _ _ _ _ _ _ _ _ _ wr => ∃ (v' : Value) (ms' : List (Option Cal)), ms'.length + g = max (i + 1) len ∧ LkS (w4.alloc (.cells #[.int .i64 1, .int .i64 nsp, .string nnm, .slice ao mm cc, .string nda, .string nsy, .int .i64 npa, .int .i64 nfi, .int .i64 nla, .int .i64 npr, .int .i64 nne, .int .i64 nin] 47)) wr base bK bP bM bA p (elOf ks) F v' ms')
  case atStart => exact ⟨_, ms, by have := unhide HLEN; omega, unhide HLK⟩
  case round =>
    obtain ⟨v', ms', hgl, hk⟩ := hrel
    have HK := hide hk
    have HG := hide hgl
    have hb0' := (hk.mod.block w.heap.size (by rw [World.size_alloc]; have := unhide HK2; omega) (fun e => by have := (unhide HLTF) _ e; omega)).trans (unhide HK1)
    have hbx := (hk.mod.block w4.heap.size (by rw [World.size_alloc]; omega) (fun e => by have := (unhide HLTF) _ e; have := unhide HK2; omega)).trans (unhide HX)
    obtain ⟨s0, s1, s2⟩ := hk.stk.cells
    obtain ⟨m0, mf⟩ := hk.stk.memo.cells
    by_cases hlt2 : (ms'.length : Int) ≤ (i : Int)
    · obtain ⟨a2, cap2, rfl⟩ := hk.stk.memo.len
      have HBX := hide hbx
      obtain ⟨i0, hi0', hz0, hz1, hz2⟩ := info_parts Tryz.info188
      have HOW := hide (fun (o : Obj) => hk.stk.memo.own.alloc o)
      have HB := hide (Nat.le_trans hk.stk.memo.lo (Nat.le_of_lt (lt_of_block hk.stk.memo.box)))
      have HNW : Hid (∀ (j : Nat) (u : Value), [.int .i64 0, .string ⟨#[]⟩, .bool false, .bool false, .bool false, .bool false, .bool false, .bool false][j]? = some u → (wr.alloc (.cells [.int .i64 0, .string ⟨#[]⟩, .bool false, .bool false, .bool false, .bool false, .bool false, .bool false].toArray 188)).cell? ((⟨wr.heap.size, 0, none⟩ : Addr).add j) = some u) := hide (World.news_of_block (w := wr.alloc (.cells [.int .i64 0, .string ⟨#[]⟩, .bool false, .bool false, .bool false, .bool false, .bool false, .bool false].toArray 188)) (B := wr.heap.size) (t := 188) (fr := (0, 0)) (heap_alloc_new wr _))
      have HL2 : Hid (ms'.length < 32768) := hide (by have := unhide HI; omega)
      have hlb2 : ∃ l2, ms'.length = l2 := ⟨_, rfl⟩
      obtain ⟨l2, hl2⟩ := hlb2
      have HLE2 := hide hl2
      rw [hl2] at HK HOW HL2 m0 hlt2
      clear hk hb0' hbx hgl hl2
      have k2 := cell_kept (below_new wr (.cells #[.int .i64 0, .string ⟨#[]⟩, .bool false, .bool false, .bool false, .bool false, .bool false, .bool false] 188)) s2
      have km := cell_kept (below_new wr (.cells #[.int .i64 0, .string ⟨#[]⟩, .bool false, .bool false, .bool false, .bool false, .bool false, .bool false] 188)) m0
      go_wp2
      go_region_law ((refine step_append_lies _ (by rfl) _ _ 140 (by rfl) base 188 i0 _ 8 32 (by kernel_rfl) hi0' hz0 hz1 hz2 rfl (by omega) (.slice a2 l2 cap2) l2 (mRow ms') (by rfl) (by first | exact own_drew ((unhide HOW) _) | exact (unhide HOW) _) ⟨wr.heap.size, 0, none⟩ 1 1 [.int .i64 0, .string ⟨#[]⟩, .bool false, .bool false, .bool false, .bool false, .bool false, .bool false] (by rfl) (by rfl) (by first | exact (fun j u hj => cell_drew ((unhide HNW) j u hj)) | exact unhide HNW) (by simp [Value.oneCell']) (by omega) (by have := unhide HL2; unfold maxLen; omega) (by have := unhide HL2; omega) (by have := unhide HB; simp; omega) (wr.heap.size + 1) (by simp) ?_; intro g' cap' w5 hown5 hgrow5 hat5 hltg5; obtain ⟨hu, d1, d2, d3, d4⟩ := (unhide HK).grow (by first | exact (below_new _ _).drew | exact below_new _ _) (by simp) (by rw [unhide HLE2]; exact hown5) hgrow5 (fun k e => by simp only [Value.ownBlock, Option.some.injEq] at e; subst e; exact hat5.imp id (fun e => by omega)); have HU := hide hu; clear hown5 hgrow5 hat5 hltg5 hu))
      all_goals go_wp2
      all_goals go_roundg (gk - 1)
      all_goals first
        | exact ⟨_, _, by have := unhide HG; have := unhide HLE2; rw [List.length_append]; simp; omega, unhide HU⟩
        | (have := unhide HG; have := unhide HLE2; omega)
    · obtain ⟨x, hx⟩ : ∃ x, ms'[i]? = some x := ⟨_, List.getElem?_eq_getElem (by omega)⟩
      obtain ⟨g2, cap2, rfl, _⟩ := hk.stk.memo.at hx
      have hlt4 : (i : Int) < (ms'.length : Int) := by omega
      have x1 := cell_row _ _ 1 _ _ _ hbx
      have x2 := cell_row _ _ 2 _ _ _ hbx
      simp only [List.getElem?_toArray, List.getElem?_cons_zero, List.getElem?_cons_succ] at x1 x2
      have HNK := hide (fun W => newKnown_any ⟨nsp, nnm⟩ W)
      simp only [Cal.agg] at HNK
      have hkv : kV ⟨nsp, nnm⟩ = .agg #[.int .i64 nsp, .string nnm, .bool (bAt ⟨nsp, nnm⟩ 5 0), .bool (bAt ⟨nsp, nnm⟩ 5 1), .bool (bAt ⟨nsp, nnm⟩ 5 2), .bool (bAt ⟨nsp, nnm⟩ 5 3), .bool (bAt ⟨nsp, nnm⟩ 5 4), .bool true] := rfl
      rw [hkv] at HNK
      have HKV := hide hkv
      clear hkv
      have HPK : Hid (∀ w6 : World, Below wr.heap.size wr w6 → LkS (w4.alloc (.cells #[.int .i64 1, .int .i64 nsp, .string nnm, .slice ao mm cc, .string nda, .string nsy, .int .i64 npa, .int .i64 nfi, .int .i64 nla, .int .i64 npr, .int .i64 nne, .int .i64 nin] 47)) ((((((((w6.setCell ⟨g2, i * 8, none⟩ (.int .i64 nsp)).setCell ⟨g2, i * 8 + 1, none⟩ (.string nnm)).setCell ⟨g2, i * 8 + 2, none⟩ (.bool (bAt ⟨nsp, nnm⟩ 5 0))).setCell ⟨g2, i * 8 + 3, none⟩ (.bool (bAt ⟨nsp, nnm⟩ 5 1))).setCell ⟨g2, i * 8 + 4, none⟩ (.bool (bAt ⟨nsp, nnm⟩ 5 2))).setCell ⟨g2, i * 8 + 5, none⟩ (.bool (bAt ⟨nsp, nnm⟩ 5 3))).setCell ⟨g2, i * 8 + 6, none⟩ (.bool (bAt ⟨nsp, nnm⟩ 5 4))).setCell ⟨g2, i * 8 + 7, none⟩ (.bool true)) base bK bP bM bA p (elOf ks) F (.slice (some ⟨g2, 0, none⟩) ms'.length cap2) (ms'.set i (some ⟨nsp, nnm⟩))) := hide (fun w6 hb6 => (hk.then hb6).poke (g := g2) (cap := cap2) (i := i) (c := ⟨nsp, nnm⟩) (by omega) (unhide HEL))
      have HEI : Hid (∀ w6 : World, Below wr.heap.size wr w6 → ∃ e0 e1 e2 e3 e4 e5 e6 e7 : Value, w6.cell? ⟨g2, i * 8, none⟩ = some e0 ∧ w6.cell? ⟨g2, i * 8 + 1, none⟩ = some e1 ∧ w6.cell? ⟨g2, i * 8 + 2, none⟩ = some e2 ∧ w6.cell? ⟨g2, i * 8 + 3, none⟩ = some e3 ∧ w6.cell? ⟨g2, i * 8 + 4, none⟩ = some e4 ∧ w6.cell? ⟨g2, i * 8 + 5, none⟩ = some e5 ∧ w6.cell? ⟨g2, i * 8 + 6, none⟩ = some e6 ∧ w6.cell? ⟨g2, i * 8 + 7, none⟩ = some e7 ∧ ∀ k : Nat, w6.frozen? ⟨g2, k, none⟩ = false) := hide (fun w6 hb6 => (hk.then hb6).stk.memo.eight (by omega))
      have HTO : Hid (∀ w6 : World, LkS (w4.alloc (.cells #[.int .i64 1, .int .i64 nsp, .string nnm, .slice ao mm cc, .string nda, .string nsy, .int .i64 npa, .int .i64 nfi, .int .i64 nla, .int .i64 npr, .int .i64 nne, .int .i64 nin] 47)) w6 base bK bP bM bA p (elOf ks) F (.slice (some ⟨g2, 0, none⟩) ms'.length cap2) (ms'.set i (some ⟨nsp, nnm⟩)) → w6.cell? ⟨g2, i * 8, none⟩ = some (.int .i64 nsp) ∧ w6.cell? ⟨g2, i * 8 + 1, none⟩ = some (.string nnm) ∧ w6.cell? ⟨g2, i * 8 + 2, none⟩ = some (.bool (bAt ⟨nsp, nnm⟩ 5 0)) ∧ w6.cell? ⟨g2, i * 8 + 3, none⟩ = some (.bool (bAt ⟨nsp, nnm⟩ 5 1)) ∧ w6.cell? ⟨g2, i * 8 + 4, none⟩ = some (.bool (bAt ⟨nsp, nnm⟩ 5 2)) ∧ w6.cell? ⟨g2, i * 8 + 5, none⟩ = some (.bool (bAt ⟨nsp, nnm⟩ 5 3)) ∧ w6.cell? ⟨g2, i * 8 + 6, none⟩ = some (.bool (bAt ⟨nsp, nnm⟩ 5 4)) ∧ w6.cell? ⟨g2, i * 8 + 7, none⟩ = some (.bool true)) := hide (fun w6 h6 => by
        have h7 := h6.stk.memo
        have hl7 : (ms'.set i (some ⟨nsp, nnm⟩)).length = ms'.length := List.length_set
        rw [← hl7] at h7
        exact KnM.told (g := g2) (cap := cap2) (i := i) (c := ⟨nsp, nnm⟩) h7 (by rw [List.getElem?_set_self (by omega)]))
      have HB0 : Hid (∀ w6 : World, LkS (w4.alloc (.cells #[.int .i64 1, .int .i64 nsp, .string nnm, .slice ao mm cc, .string nda, .string nsy, .int .i64 npa, .int .i64 nfi, .int .i64 nla, .int .i64 npr, .int .i64 nne, .int .i64 nin] 47)) w6 base bK bP bM bA p (elOf ks) F (.slice (some ⟨g2, 0, none⟩) ms'.length cap2) (ms'.set i (some ⟨nsp, nnm⟩)) → w6.heap[w.heap.size]? = some (.cells zRow 188 (0, 0))) := hide (fun w6 h6 => (h6.mod.block w.heap.size (by rw [World.size_alloc]; have := unhide HK2; omega) (fun e => by have := (unhide HLTF) _ e; omega)).trans (unhide HK1))
      have hlb2 : ∃ l2, ms'.length = l2 := ⟨_, rfl⟩
      obtain ⟨l2, hl2⟩ := hlb2
      have HLE2 := hide hl2
      rw [hl2] at HPK HTO HB0 m0 hlt4
      generalize bAt ⟨nsp, nnm⟩ 5 0 = e0 at *
      generalize bAt ⟨nsp, nnm⟩ 5 1 = e1 at *
      generalize bAt ⟨nsp, nnm⟩ 5 2 = e2 at *
      generalize bAt ⟨nsp, nnm⟩ 5 3 = e3 at *
      generalize bAt ⟨nsp, nnm⟩ 5 4 = e4 at *
      clear hk hb0' hbx hgl hl2 hx hlt2
      go_wp2
      have HS : Hid (∀ W' : World, Below wr.heap.size wr W' → W'.cell? ⟨bK, 2, none⟩ = some (.pointer (some ⟨bM, 0, none⟩)) ∧ W'.cell? ⟨bM, 0, none⟩ = some (.slice (some ⟨g2, 0, none⟩) l2 cap2) ∧ W'.cell? ⟨w4.heap.size, 1, none⟩ = some (.int .i64 nsp) ∧ W'.cell? ⟨w4.heap.size, 2, none⟩ = some (.string nnm)) := hide (fun W' hb => ⟨cell_kept hb s2, cell_kept hb m0, cell_kept hb x1, cell_kept hb x2⟩)
      have HSP : Hid (∀ w6 : World, Below wr.heap.size wr w6 → ((((((((w6.setCell ⟨g2, i * 8, none⟩ (.int .i64 nsp)).setCell ⟨g2, i * 8 + 1, none⟩ (.string nnm)).setCell ⟨g2, i * 8 + 2, none⟩ (.bool e0)).setCell ⟨g2, i * 8 + 3, none⟩ (.bool e1)).setCell ⟨g2, i * 8 + 4, none⟩ (.bool e2)).setCell ⟨g2, i * 8 + 5, none⟩ (.bool e3)).setCell ⟨g2, i * 8 + 6, none⟩ (.bool e4)).setCell ⟨g2, i * 8 + 7, none⟩ (.bool true)).cell? ⟨bK, 2, none⟩ = some (.pointer (some ⟨bM, 0, none⟩)) ∧ ((((((((w6.setCell ⟨g2, i * 8, none⟩ (.int .i64 nsp)).setCell ⟨g2, i * 8 + 1, none⟩ (.string nnm)).setCell ⟨g2, i * 8 + 2, none⟩ (.bool e0)).setCell ⟨g2, i * 8 + 3, none⟩ (.bool e1)).setCell ⟨g2, i * 8 + 4, none⟩ (.bool e2)).setCell ⟨g2, i * 8 + 5, none⟩ (.bool e3)).setCell ⟨g2, i * 8 + 6, none⟩ (.bool e4)).setCell ⟨g2, i * 8 + 7, none⟩ (.bool true)).cell? ⟨bM, 0, none⟩ = some (.slice (some ⟨g2, 0, none⟩) l2 cap2) ∧ ((((((((w6.setCell ⟨g2, i * 8, none⟩ (.int .i64 nsp)).setCell ⟨g2, i * 8 + 1, none⟩ (.string nnm)).setCell ⟨g2, i * 8 + 2, none⟩ (.bool e0)).setCell ⟨g2, i * 8 + 3, none⟩ (.bool e1)).setCell ⟨g2, i * 8 + 4, none⟩ (.bool e2)).setCell ⟨g2, i * 8 + 5, none⟩ (.bool e3)).setCell ⟨g2, i * 8 + 6, none⟩ (.bool e4)).setCell ⟨g2, i * 8 + 7, none⟩ (.bool true)).cell? ⟨w4.heap.size, 1, none⟩ = some (.int .i64 nsp) ∧ ((((((((w6.setCell ⟨g2, i * 8, none⟩ (.int .i64 nsp)).setCell ⟨g2, i * 8 + 1, none⟩ (.string nnm)).setCell ⟨g2, i * 8 + 2, none⟩ (.bool e0)).setCell ⟨g2, i * 8 + 3, none⟩ (.bool e1)).setCell ⟨g2, i * 8 + 4, none⟩ (.bool e2)).setCell ⟨g2, i * 8 + 5, none⟩ (.bool e3)).setCell ⟨g2, i * 8 + 6, none⟩ (.bool e4)).setCell ⟨g2, i * 8 + 7, none⟩ (.bool true)).cell? ⟨w4.heap.size, 2, none⟩ = some (.string nnm)) := hide (fun w6 hb6 => by
        have h7 := (unhide HPK) w6 hb6
        have hbx := (h7.mod.block w4.heap.size (by rw [World.size_alloc]; omega) (fun e => by have := (unhide HLTF) _ e; have := unhide HK2; omega)).trans (unhide HX)
        exact ⟨h7.stk.cells.2.2, h7.stk.memo.cells.1, cell_row _ _ 1 _ _ _ hbx, cell_row _ _ 2 _ _ _ hbx⟩)
      have HB0' := hide (Below.refl wr.heap.size wr)
      have HLE0 := hide (Nat.le_refl wr.heap.size)
      go_region_held3 (fun W' => W'.cell? ⟨bK, 2, none⟩ = some (.pointer (some ⟨bM, 0, none⟩)) ∧ W'.cell? ⟨bM, 0, none⟩ = some (.slice (some ⟨g2, 0, none⟩) l2 cap2) ∧ W'.cell? ⟨w4.heap.size, 1, none⟩ = some (.int .i64 nsp) ∧ W'.cell? ⟨w4.heap.size, 2, none⟩ = some (.string nnm)) (((first | with_reducible refine (unhide HSP) _ ?_ | refine (unhide HS) _ ?_); repeat' (with_reducible (first | exact unhide HB0' | exact unhide HBX6 | exact unhide HLE0 | apply balloc | apply bdrew | apply bput)))) (first
        | (go_at_call 180; refine ((unhide HNK) _).mono ?_; rintro e w6 ⟨rfl, hb6⟩; have hbx6 : Below wr.heap.size wr w6 := (by first | exact hb6 | exact ((Below.refl _ wr).drew).trans hb6); obtain ⟨d0, d1, d2, d3, d4, d5, d6, d7, c0, c1, c2, c3, c4, c5, c6, c7, cf⟩ := (unhide HEI) _ hbx6; have cf0 := cf (i * 8); have cf1 := cf (i * 8 + 1); have cf2 := cf (i * 8 + 2); have cf3 := cf (i * 8 + 3); have cf4 := cf (i * 8 + 4); have cf5 := cf (i * 8 + 5); have cf6 := cf (i * 8 + 6); have cf7 := cf (i * 8 + 7); have HPW := hide ((unhide HPK) _ hbx6); have HBX6 := hide hbx6; clear hb6 hbx6 cf))
      have hpw := unhide HPW
      clear HPW c0 c1 c2 c3 c4 c5 c6 c7 cf0 cf1 cf2 cf3 cf4 cf5 cf6 cf7 x1 x2 s0 s1 s2 m0 mf HS HSP
      generalize ((((((((w6.setCell ⟨g2, i * 8, none⟩ (.int .i64 nsp)).setCell ⟨g2, i * 8 + 1, none⟩ (.string nnm)).setCell ⟨g2, i * 8 + 2, none⟩ (.bool e0)).setCell ⟨g2, i * 8 + 3, none⟩ (.bool e1)).setCell ⟨g2, i * 8 + 4, none⟩ (.bool e2)).setCell ⟨g2, i * 8 + 5, none⟩ (.bool e3)).setCell ⟨g2, i * 8 + 6, none⟩ (.bool e4)).setCell ⟨g2, i * 8 + 7, none⟩ (.bool true)) = w7 at hpw ⊢
      obtain ⟨q0, q1, q2⟩ := hpw.stk.cells
      have qm := hpw.stk.memo.cells.1
      obtain ⟨t0, t1, t2, t3, t4, t5, t6, t7⟩ := (unhide HTO) _ hpw
      have hb7 := (unhide HB0) _ hpw
      have HPW := hide hpw
      have y0 := (cell_row _ _ 0 _ _ _ hb7).trans (List.getElem?_toArray ..)
      have y1 := (cell_row _ _ 1 _ _ _ hb7).trans (List.getElem?_toArray ..)
      have y2 := (cell_row _ _ 2 _ _ _ hb7).trans (List.getElem?_toArray ..)
      have y3 := (cell_row _ _ 3 _ _ _ hb7).trans (List.getElem?_toArray ..)
      have y4 := (cell_row _ _ 4 _ _ _ hb7).trans (List.getElem?_toArray ..)
      have y5 := (cell_row _ _ 5 _ _ _ hb7).trans (List.getElem?_toArray ..)
      have y6 := (cell_row _ _ 6 _ _ _ hb7).trans (List.getElem?_toArray ..)
      have y7 := (cell_row _ _ 7 _ _ _ hb7).trans (List.getElem?_toArray ..)
      simp only [List.getElem?_cons_zero, List.getElem?_cons_succ] at y0 y1 y2 y3 y4 y5 y6 y7
      have yf := look_unfrozen hb7
      have yf0 := yf 0
      have yf1 := yf 1
      have yf2 := yf 2
      have yf3 := yf 3
      have yf4 := yf 4
      have yf5 := yf 5
      have yf6 := yf 6
      have yf7 := yf 7
      have HB7 := hide hb7
      clear hpw hb7 yf
      go_wp2
      obtain ⟨E1, E2⟩ := eight_block w7 w.heap.size (.int .i64 nsp) (.string nnm) (.bool e0) (.bool e1) (.bool e2) (.bool e3) (.bool e4) (.bool true) _ _ _ _ _ _ _ _ _ (by have := unhide HB7; unfold zRow at this; exact this)
      have hkv := unhide HKV
      rw [hkv]
      exact bodyPost_ret (v := .tuple #[.agg #[.int .i64 nsp, .string nnm, .bool e0, .bool e1, .bool e2, .bool e3, .bool e4, .bool true], .bool true]) (known_ret _ w.heap.size _ rfl E1 _ _ rfl rfl) rfl ⟨rfl, (unhide HPW).upd.behind (unhide HK3) (by rw [World.size_alloc]; have := unhide HK2; omega) (unhide HLTF) E2⟩
end
end Go.Proofs.YtkakncngkmoegaaGreat
