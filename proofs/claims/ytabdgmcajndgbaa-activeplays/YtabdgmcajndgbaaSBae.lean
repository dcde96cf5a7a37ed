/-
  Package active: attributes compared; a list of attributes of one's own. slices.SortFunc at attributes: the shelf's laying, in plain words (by the kit's own tool, off this seat's dump).
-/
import Derived.Test.YtabdgmcajndgbaaSBac
import Derived.Test.YtabdgmcajndgbaaSBad
import Derived.Deep.RegionHeld3
import Derived.Shelf.SlSortCmp.WholeK
import Derived.Ground.SlsfProg
import Derived.Test.YtabdgmcajndgbaaProg
namespace Go.Proofs.Ytabdgmcajndgbaa
open Go.RowKit Go.Sort

theorem cmpI_any (x y : Int) (w : World) : Calls Try.prog 81 #[.int .i64 x, .int .i64 y] w fun e w' => e = .returned (.int .i64 (cmpI x y)) ∧ w = w' := by
  have H : ∀ W x, Calls Try.prog 93 #[.int .i64 x] W fun e w' => e = .returned (.bool false) ∧ W = w' := by
    intro W x
    go_enter Try.func93, Try.ntmps93
    go_wp2
    go_ret
    exact ⟨rfl, rfl⟩
  have HH := hide H
  clear H
  unfold cmpI
  by_cases h1 : x < y
  · rw [if_pos h1]
    go_enter Try.func81, Try.ntmps81
    go_wp2_with (go_at_call 93; refine ((unhide HH) _ _).mono ?_; rintro e w1 ⟨rfl, rfl⟩)
    go_ret
    exact ⟨rfl, rfl⟩
  · rw [if_neg h1]
    by_cases h2 : y < x
    · rw [if_pos h2]
      go_enter Try.func81, Try.ntmps81
      go_wp2_with (go_at_call 93; refine ((unhide HH) _ _).mono ?_; rintro e w1 ⟨rfl, rfl⟩)
      go_ret
      exact ⟨rfl, rfl⟩
    · rw [if_neg h2]
      go_enter Try.func81, Try.ntmps81
      go_wp2_with (go_at_call 93; refine ((unhide HH) _ _).mono ?_; rintro e w1 ⟨rfl, rfl⟩)
      go_ret
      exact ⟨rfl, rfl⟩

theorem cmpS_any (x y : ByteArray) (w : World) : Calls Try.prog 82 #[.string x, .string y] w fun e w' => e = .returned (.int .i64 (cmpS x y)) ∧ w = w' := by
  have H : ∀ W x, Calls Try.prog 94 #[.string x] W fun e w' => e = .returned (.bool false) ∧ W = w' := by
    intro W x
    go_enter Try.func94, Try.ntmps94
    go_wp2
    go_ret
    exact ⟨rfl, rfl⟩
  have HH := hide H
  clear H
  unfold cmpS
  cases h1 : Op.bytesLess x.toList y.toList with
  | true =>
    go_enter Try.func82, Try.ntmps82
    go_wp2_with (go_at_call 94; refine ((unhide HH) _ _).mono ?_; rintro e w1 ⟨rfl, rfl⟩)
    go_ret
    exact ⟨rfl, rfl⟩
  | false =>
    by_cases h2 : x.toList = y.toList
    · have h3 : (x.toList == y.toList) = true := by simp [h2]
      rw [if_pos h2]
      have HX := hide h2
      clear h2
      go_enter Try.func82, Try.ntmps82
      go_wp2_with (go_at_call 94; refine ((unhide HH) _ _).mono ?_; rintro e w1 ⟨rfl, rfl⟩)
      go_ret
      exact ⟨rfl, rfl⟩
    · have h3 : (x.toList == y.toList) = false := by simp [h2]
      rw [if_neg h2]
      have HX := hide h2
      clear h2
      go_enter Try.func82, Try.ntmps82
      go_wp2_with (go_at_call 94; refine ((unhide HH) _ _).mono ?_; rintro e w1 ⟨rfl, rfl⟩)
      go_ret
      exact ⟨rfl, rfl⟩

def orI : List Int → Int
  | [] => 0
  | v :: r => if v ≠ 0 then v else orI r
theorem cmpA_or (x y : AttrM) : cmpA x y = orI [cmpI x.space y.space, cmpS x.pre y.pre, cmpS x.name y.name, cmpS x.val y.val] := by
  simp only [cmpA, lexC, orI]
  split <;> try rfl
  split <;> try rfl
  split <;> try rfl
  split
  · rfl
  · omega

theorem orI_skip {L : List Int} {j : Nat} (h : ∀ i, i < j → L[i]? = some 0) : orI (L.drop j) = orI L := by
  induction j with
  | zero => simp
  | succ j ih =>
    rw [← ih (fun i hi => h i (by omega))]
    have hj := h j (by omega)
    have hlt := (List.getElem?_eq_some_iff.1 hj).1
    have e : L[j] = 0 := (List.getElem?_eq_some_iff.1 hj).2
    rw [List.drop_eq_getElem_cons hlt, e]
    rfl
theorem or_any (b : Nat) (L : List Int) (n : Nat) (hn : L.length = n) (hz : n ≤ 100) (w : World) (h : ∀ j x, L[j]? = some x → w.cell? ⟨b, j, none⟩ = some (.int .i64 x)) :
    Calls Try.prog 80 #[.slice (some ⟨b, 0, none⟩) n n] w fun e w' => e = .returned (.int .i64 (orI L)) ∧ w = w' := by
  have HC := hide h
  have hnz : (n : Int) ≤ 100 := by omega
  have HN := hide hn
  clear h hn hz
  go_enter Try.func80, Try.ntmps80
  go_wp2
  go_loopg [5, 8] n (fun k _ s wx => ∃ j : Nat, s = .int .i64 j ∧ j + k = n ∧ wx = w ∧ ∀ i, i < j → L[i]? = some 0)
  case atStart => exact ⟨0, rfl, by omega, rfl, fun i hi => by omega⟩
  case round =>
    obtain ⟨j, rfl, hjk, rfl, hpre⟩ := hrel
    have HP := hide hpre
    clear hpre
    by_cases hj : j < n
    · obtain ⟨x, hx⟩ : ∃ x, L[j]? = some x := ⟨_, List.getElem?_eq_getElem (by rw [unhide HN]; exact hj)⟩
      have hc := (unhide HC) j x hx
      have hjz : (j : Int) < (n : Int) := by omega
      have hj0 : (0 : Int) ≤ (j : Int) := by omega
      have HX := hide hx
      clear hx
      by_cases h0 : x = 0
      · subst h0
        go_wp2
        go_roundg (gk - 1)
        case measure => omega
        case rel =>
          refine ⟨j + 1, by go_num, by omega, rfl, fun i hi => ?_⟩
          by_cases e : i = j
          · subst e; exact unhide HX
          · exact (unhide HP) i (by omega)
      · have h0' : (x != 0) = true := by simpa using h0
        have HE : Hid (orI L = x) := hide (by
          have hlt := (List.getElem?_eq_some_iff.1 (unhide HX)).1
          have e : L[j] = x := (List.getElem?_eq_some_iff.1 (unhide HX)).2
          rw [← orI_skip (unhide HP), List.drop_eq_getElem_cons hlt, e, orI, if_pos h0])
        clear h0
        go_wp2
        go_ret
        exact ⟨by rw [unhide HE]; rfl, rfl⟩
    · have hjz : ¬ (j : Int) < (n : Int) := by omega
      have HE : Hid (orI L = 0) := hide (by
        rw [← orI_skip (unhide HP), List.drop_of_length_le (by rw [unhide HN]; omega)]; rfl)
      go_wp2
      go_ret
      exact ⟨by rw [unhide HE]; rfl, rfl⟩

/-- Two attributes in the first two blocks. -/
theorem two_attrs (w : World) (a0 a1 a2 a3 b0 b1 b2 b3 : Value) (t : TypeId) :
    let W := (w.alloc (.cells #[a0, a1, a2, a3] t)).alloc (.cells #[b0, b1, b2, b3] t)
    W.cell? ⟨w.heap.size, 0, none⟩ = some a0 ∧ W.cell? ⟨w.heap.size, 1, none⟩ = some a1 ∧ W.cell? ⟨w.heap.size, 2, none⟩ = some a2 ∧ W.cell? ⟨w.heap.size, 3, none⟩ = some a3 ∧
    W.cell? ⟨w.heap.size + 1, 0, none⟩ = some b0 ∧ W.cell? ⟨w.heap.size + 1, 1, none⟩ = some b1 ∧ W.cell? ⟨w.heap.size + 1, 2, none⟩ = some b2 ∧ W.cell? ⟨w.heap.size + 1, 3, none⟩ = some b3 := by
  have h1 := heap_alloc2_old w (.cells #[a0, a1, a2, a3] t) (.cells #[b0, b1, b2, b3] t)
  have h2 := heap_alloc2_new w (.cells #[a0, a1, a2, a3] t) (.cells #[b0, b1, b2, b3] t)
  have k1 := fun j => cell_of_row _ _ j _ _ _ h1
  have k2 := fun j => cell_of_row _ _ j _ _ _ h2
  refine ⟨?_, ?_, ?_, ?_, ?_, ?_, ?_, ?_⟩ <;> first | (rw [k1]; rfl) | (rw [k2]; rfl)

theorem four_in (X : World) (b : Nat) (hb : X.heap.size = b) (v0 v1 v2 v3 : Int) (t : TypeId) : ∀ j x, [v0, v1, v2, v3][j]? = some x → (X.alloc (.cells #[.int .i64 v0, .int .i64 v1, .int .i64 v2, .int .i64 v3] t)).cell? ⟨b, j, none⟩ = some (.int .i64 x) := by
  subst hb
  intro j x hj
  rw [cell_of_row _ _ j _ _ _ (heap_alloc_new X _)]
  match j, hj with
  | 0, hj => simpa using hj
  | 1, hj => simpa using hj
  | 2, hj => simpa using hj
  | 3, hj => simpa using hj
theorem two_attrs_more {W : World} {n : Nat} {a0 a1 a2 a3 b0 b1 b2 b3 : Value} (h : W.cell? ⟨n, 0, none⟩ = some a0 ∧ W.cell? ⟨n, 1, none⟩ = some a1 ∧ W.cell? ⟨n, 2, none⟩ = some a2 ∧ W.cell? ⟨n, 3, none⟩ = some a3 ∧
    W.cell? ⟨n + 1, 0, none⟩ = some b0 ∧ W.cell? ⟨n + 1, 1, none⟩ = some b1 ∧ W.cell? ⟨n + 1, 2, none⟩ = some b2 ∧ W.cell? ⟨n + 1, 3, none⟩ = some b3) (o : Obj) :
    (W.alloc o).cell? ⟨n, 0, none⟩ = some a0 ∧ (W.alloc o).cell? ⟨n, 1, none⟩ = some a1 ∧ (W.alloc o).cell? ⟨n, 2, none⟩ = some a2 ∧ (W.alloc o).cell? ⟨n, 3, none⟩ = some a3 ∧
    (W.alloc o).cell? ⟨n + 1, 0, none⟩ = some b0 ∧ (W.alloc o).cell? ⟨n + 1, 1, none⟩ = some b1 ∧ (W.alloc o).cell? ⟨n + 1, 2, none⟩ = some b2 ∧ (W.alloc o).cell? ⟨n + 1, 3, none⟩ = some b3 := by
  obtain ⟨h0, h1, h2, h3, h4, h5, h6, h7⟩ := h
  exact ⟨Lib.cell?_alloc_some o h0, Lib.cell?_alloc_some o h1, Lib.cell?_alloc_some o h2, Lib.cell?_alloc_some o h3, Lib.cell?_alloc_some o h4, Lib.cell?_alloc_some o h5, Lib.cell?_alloc_some o h6, Lib.cell?_alloc_some o h7⟩

set_option maxHeartbeats 2000000 in
theorem compare_any (x y : AttrM) (w : World) : Calls Try.prog 74 #[.agg #[.int .i64 x.space, .string x.pre, .string x.name, .string x.val], .agg #[.int .i64 y.space, .string y.pre, .string y.name, .string y.val]] w fun e w' => e = .returned (.int .i64 (cmpA x y)) ∧ ∃ q os', w' = grow (w.drewN q) os' := by
  rw [cmpA_or]
  have H0 := hide (cmpI_any x.space y.space)
  have H1 := hide (cmpS_any x.pre y.pre)
  have H2 := hide (cmpS_any x.name y.name)
  have H3 := hide (cmpS_any x.val y.val)
  generalize cmpI x.space y.space = v0 at *
  generalize cmpS x.pre y.pre = v1 at *
  generalize cmpS x.name y.name = v2 at *
  generalize cmpS x.val y.val = v3 at *
  obtain ⟨x0, x1, x2, x3⟩ := x
  obtain ⟨y0, y1, y2, y3⟩ := y
  simp only at H0 H1 H2 H3 ⊢
  have HC := hide (two_attrs w (.int .i64 x0) (.string x1) (.string x2) (.string x3) (.int .i64 y0) (.string y1) (.string y2) (.string y3) 86)
  have HF := hide (four_in ((w.alloc (.cells #[.int .i64 x0, .string x1, .string x2, .string x3] 86)).alloc (.cells #[.int .i64 y0, .string y1, .string y2, .string y3] 86)) (w.heap.size + 1 + 1) (by simp) v0 v1 v2 v3 3)
  go_enter Try.func74, Try.ntmps74
  go_wp2_with fail
  go_region_held3 (fun w' => w'.cell? ⟨w.heap.size, 0, none⟩ = some (.int .i64 x0) ∧ w'.cell? ⟨w.heap.size, 1, none⟩ = some (.string x1) ∧ w'.cell? ⟨w.heap.size, 2, none⟩ = some (.string x2) ∧ w'.cell? ⟨w.heap.size, 3, none⟩ = some (.string x3) ∧ w'.cell? ⟨w.heap.size + 1, 0, none⟩ = some (.int .i64 y0) ∧ w'.cell? ⟨w.heap.size + 1, 1, none⟩ = some (.string y1) ∧ w'.cell? ⟨w.heap.size + 1, 2, none⟩ = some (.string y2) ∧ w'.cell? ⟨w.heap.size + 1, 3, none⟩ = some (.string y3)) (first | exact unhide HC | exact two_attrs_more (unhide HC) _) (first
    | (go_at_call 81; refine ((unhide H0) _).mono ?_; rintro e w1 ⟨rfl, rfl⟩; have M1 := hide trivial)
    | (have _x := unhide M3; clear _x; go_at_call 82; refine ((unhide H3) _).mono ?_; rintro e w1 ⟨rfl, rfl⟩; have M4 := hide trivial)
    | (have _x := unhide M2; clear _x; go_at_call 82; refine ((unhide H2) _).mono ?_; rintro e w1 ⟨rfl, rfl⟩; have M3 := hide trivial)
    | (have _x := unhide M1; clear _x; go_at_call 82; refine ((unhide H1) _).mono ?_; rintro e w1 ⟨rfl, rfl⟩; have M2 := hide trivial)
    | (go_at_call 80; refine (or_any (w.heap.size + 1 + 1) [v0, v1, v2, v3] 4 rfl (by omega) _ (by exact unhide HF)).mono ?_; rintro e w1 ⟨rfl, rfl⟩))
  all_goals go_wp2
  all_goals go_ret
  all_goals refine ⟨rfl, 1, #[.cells #[.int .i64 x0, .string x1, .string x2, .string x3] 86, .cells #[.int .i64 y0, .string y1, .string y2, .string y3] 86, .cells #[.int .i64 v0, .int .i64 v1, .int .i64 v2, .int .i64 v3] 3], ?_⟩
  all_goals rfl
end Go.Proofs.Ytabdgmcajndgbaa

namespace Go.Proofs
open Go.Shelf
def Try.sortA_ren : Go.Shelf.Ren := ⟨fun | 6 => 73 | 15 => 79 | 14 => 78 | 28 => 91 | 29 => 92 | 20 => 83 | 21 => 84 | 22 => 85 | 23 => 86 | 24 => 87 | 25 => 88 | 26 => 89 | 27 => 90 | 46 => 95 | 47 => 96 | 48 => 97 | 49 => 98 | 50 => 99 | 57 => 100 | n => n, fun | 22 => 35 | 24 => 86 | 25 => 131 | 3 => 3 | 39 => 135 | 0 => 0 | 53 => 147 | 55 => 149 | 4 => 4 | 46 => 140 | 45 => 139 | 50 => 144 | 5 => 5 | 9 => 9 | 66 => 151 | 70 => 155 | 76 => 157 | 77 => 58 | n => n, fun | n => n⟩
theorem Try.sortA : Go.Proofs.SlLaysF0.n6 Try.prog Try.sortA_ren := {
  mixed := by kernel_rfl
  f6 := ⟨Try.f73.name, by decide, Try.func73.trans (congrArg some (by kernel_rfl))⟩
  f14 := ⟨Try.f78.name, by decide, Try.func78.trans (congrArg some (by kernel_rfl))⟩
  f15 := Try.func79.trans (congrArg some (by kernel_rfl))
  f20 := ⟨Try.f83.name, by decide, Try.func83.trans (congrArg some (by kernel_rfl))⟩
  f21 := ⟨Try.f84.name, by decide, Try.func84.trans (congrArg some (by kernel_rfl))⟩
  f22 := ⟨Try.f85.name, by decide, Try.func85.trans (congrArg some (by kernel_rfl))⟩
  f23 := ⟨Try.f86.name, by decide, Try.func86.trans (congrArg some (by kernel_rfl))⟩
  f24 := ⟨Try.f87.name, by decide, Try.func87.trans (congrArg some (by kernel_rfl))⟩
  f25 := ⟨Try.f88.name, by decide, Try.func88.trans (congrArg some (by kernel_rfl))⟩
  f26 := ⟨Try.f89.name, by decide, Try.func89.trans (congrArg some (by kernel_rfl))⟩
  f27 := ⟨Try.f90.name, by decide, Try.func90.trans (congrArg some (by kernel_rfl))⟩
  f28 := Try.func91.trans (congrArg some (by kernel_rfl))
  f29 := Try.func92.trans (congrArg some (by kernel_rfl))
  f46 := ⟨Try.f95.name, by decide, Try.func95.trans (congrArg some (by kernel_rfl))⟩
  f47 := Try.func96.trans (congrArg some (by kernel_rfl))
  f48 := Try.func97.trans (congrArg some (by kernel_rfl))
  f49 := ⟨Try.f98.name, by decide, Try.func98.trans (congrArg some (by kernel_rfl))⟩
  f50 := ⟨Try.f99.name, by decide, Try.func99.trans (congrArg some (by kernel_rfl))⟩
  f57 := ⟨Try.f100.name, by decide, Try.func100.trans (congrArg some (by kernel_rfl))⟩
  t0 := Try.underlying0
  a0 := Try.isAgg0
  z0 := Try.sizeOf0
  v0 := Try.zeroValue0
  t3 := Try.underlying3
  a3 := Try.isAgg3
  z3 := Try.sizeOf3
  v3 := Try.zeroValue3
  t4 := Try.underlying4
  a4 := Try.isAgg4
  z4 := Try.sizeOf4
  v4 := Try.zeroValue4
  t5 := Try.underlying5
  a5 := Try.isAgg5
  z5 := Try.sizeOf5
  v5 := Try.zeroValue5
  t9 := Try.underlying9
  a9 := Try.isAgg9
  z9 := Try.sizeOf9
  v9 := Try.zeroValue9
  t22 := Try.underlying35
  a22 := Try.isAgg35
  z22 := Try.sizeOf35
  v22 := Try.zeroValue35
  t25 := Try.underlying131
  a25 := Try.isAgg131
  z25 := Try.sizeOf131
  v25 := Try.zeroValue131
  t39 := Try.underlying135
  a39 := Try.isAgg135
  z39 := Try.sizeOf135
  v39 := Try.zeroValue135
  t45 := Try.underlying139
  a45 := Try.isAgg139
  z45 := Try.sizeOf139
  v45 := Try.zeroValue139
  t46 := Try.underlying140
  a46 := Try.isAgg140
  z46 := Try.sizeOf140
  v46 := Try.zeroValue140
  t50 := Try.underlying144
  a50 := Try.isAgg144
  z50 := Try.sizeOf144
  v50 := Try.zeroValue144
  t53 := Try.underlying147
  a53 := Try.isAgg147
  z53 := Try.sizeOf147
  v53 := Try.zeroValue147
  t55 := Try.underlying149
  a55 := Try.isAgg149
  z55 := Try.sizeOf149
  v55 := Try.zeroValue149
  t66 := Try.underlying151
  a66 := Try.isAgg151
  z66 := Try.sizeOf151
  v66 := Try.zeroValue151
  t70 := Try.underlying155
  a70 := Try.isAgg155
  z70 := Try.sizeOf155
  v70 := Try.zeroValue155
  t76 := Try.underlying157
  a76 := Try.isAgg157
  z76 := Try.sizeOf157
  v76 := Try.zeroValue157
  t77 := Try.underlying58
  a77 := Try.isAgg58
  z77 := Try.sizeOf58
  v77 := Try.zeroValue58 }
end Go.Proofs
