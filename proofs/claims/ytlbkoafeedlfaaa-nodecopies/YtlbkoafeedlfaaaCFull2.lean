/-
  Doctype, Fragment, SetData; Node of what is no node.
-/
import Derived.Test.YtlbkoafeedlfaaaCOps
import Derived.Test.YtlbkoafeedlfaaaCNode
namespace Go.Proofs.Ytlbkoafeedlfaaa
open Go.RowKit

set_option maxHeartbeats 1000000 in
theorem fragment_fits {w : World} {base bA : Nat} {ns : List NodeM} {F : Nat → Prop} (h : ArS w base bA ns F) (hf : ns.length + 1 ≤ 32768) :
    Calls Try.prog 71 #[.pointer (some ⟨bA, 0, none⟩)] w fun e w' => e = .returned (.tuple #[.int .i64 ns.length, .int .i64 0]) ∧ Upd F w w' base bA (ns ++ [blankM 5]) := by
  obtain ⟨bS, g, cap, h, hF⟩ := h
  have HF := hide hF
  have HM := hide (made_yes h)
  have HH := hide h
  clear h hF
  go_enter Try.func71, Try.ntmps71
  go_wp2_with (first
    | (go_at_call 53; refine (unhide HM).mono ?_; rintro e w' ⟨rfl, rfl⟩)
    | (go_at_call 36; refine (blank_any _).mono ?_; rintro e w' ⟨rfl, rfl⟩))
  refine (add_fits1 (n := blankM 5) (((unhide HH).alloc _).alloc _) (news_bare (((unhide HH).alloc _).alloc _) _ (by simp [blankM])) hf _ _ (last_block _ _ _ (by simp))).mono ?_
  rintro e w' ⟨rfl, g', cap', har, hmod, hgg⟩
  go_wp2
  go_ret2
  exact ⟨rfl, upd_add (unhide HF) (((Below.refl _ w).alloc (Nat.le_refl _) _).alloc (by simp) _) har hmod hgg (by simp [blankM, Value.ownBlock])⟩

set_option maxHeartbeats 1000000 in
theorem fragment_full {w : World} {base bA : Nat} {ns : List NodeM} {F : Nat → Prop} (h : ArS w base bA ns F) (hf : ¬ ns.length + 1 ≤ 32768) :
    Calls Try.prog 71 #[.pointer (some ⟨bA, 0, none⟩)] w fun e w' => e = .returned (.tuple #[.int .i64 0, .int .i64 9]) ∧ Below w.heap.size w w' := by
  obtain ⟨bS, g, cap, h, hF⟩ := h
  have HM := hide (made_yes h)
  have HH := hide h
  clear h hF
  go_enter Try.func71, Try.ntmps71
  go_wp2_with (first
    | (go_at_call 53; refine (unhide HM).mono ?_; rintro e w' ⟨rfl, rfl⟩)
    | (go_at_call 36; refine (blank_any _).mono ?_; rintro e w' ⟨rfl, rfl⟩))
  refine (add_full (((unhide HH).alloc _).alloc _) _ _ 1 (by omega) hf).mono ?_
  rintro e w' ⟨rfl, rfl⟩
  go_wp2
  go_ret2
  exact ⟨rfl, (((Below.refl _ w).alloc (Nat.le_refl _) _).alloc (by simp) _)⟩

theorem threeS (w : World) (t : TypeId) (x y z : ByteArray) : ∀ j s, [x, y, z][j]? = some s → (w.alloc (.cells #[.string x, .string y, .string z] t)).cell? ⟨w.heap.size, j, none⟩ = some (.string s) := by
  intro j s hj
  match j, hj with
  | 0, hj => simp at hj; subst hj; simp
  | 1, hj => simp at hj; subst hj; simp
  | 2, hj => simp at hj; subst hj; simp

def docN (name pub sys : ByteArray) : NodeM := { blankM 4 with name := name, data := pub, system := sys }

set_option maxHeartbeats 1000000 in
theorem doctype_long {w : World} {base bA : Nat} {ns : List NodeM} {F : Nat → Prop} (h : ArS w base bA ns F) (n p s : ByteArray) (hs : (longS n || longS p || longS s) = true) :
    Calls Try.prog 69 #[.pointer (some ⟨bA, 0, none⟩), .string n, .string p, .string s] w fun e w' => e = .returned (.tuple #[.int .i64 0, .int .i64 2]) ∧ Below w.heap.size w w' := by
  obtain ⟨bS, g, cap, h, hF⟩ := h
  have HM := hide (made_yes h)
  have HL := hide (anyLong_any (w.alloc (.cells #[.string n, .string p, .string s] 9)) w.heap.size 3 [n, p, s] (threeS w 9 n p s) (by simp))
  have hlong : [n, p, s].any longS = true := by simpa [or_assoc] using hs
  rw [hlong] at HL
  clear h hF hlong
  go_enter Try.func69, Try.ntmps69
  go_wp2_with (first
    | (go_at_call 53; refine (unhide HM).mono ?_; rintro e w' ⟨rfl, rfl⟩)
    | (go_at_call 88; refine (unhide HL).mono ?_; rintro e w' ⟨rfl, rfl⟩))
  go_ret2
  exact ⟨rfl, (Below.refl _ w).alloc (Nat.le_refl _) _⟩

set_option maxHeartbeats 1000000 in
theorem doctype_fits {w : World} {base bA : Nat} {ns : List NodeM} {F : Nat → Prop} (h : ArS w base bA ns F) (n p s : ByteArray) (hs : (longS n || longS p || longS s) = false) (hf : ns.length + 1 ≤ 32768) :
    Calls Try.prog 69 #[.pointer (some ⟨bA, 0, none⟩), .string n, .string p, .string s] w fun e w' => e = .returned (.tuple #[.int .i64 ns.length, .int .i64 0]) ∧ Upd F w w' base bA (ns ++ [docN n p s]) := by
  obtain ⟨bS, g, cap, h, hF⟩ := h
  have HF := hide hF
  have HM := hide (made_yes h)
  have HL := hide (anyLong_any (w.alloc (.cells #[.string n, .string p, .string s] 9)) w.heap.size 3 [n, p, s] (threeS w 9 n p s) (by simp))
  have HH := hide h
  have hlong : [n, p, s].any longS = false := by simpa [and_assoc] using hs
  rw [hlong] at HL
  clear h hF hlong
  go_enter Try.func69, Try.ntmps69
  go_wp2_with (first
    | (go_at_call 53; refine (unhide HM).mono ?_; rintro e w' ⟨rfl, rfl⟩)
    | (go_at_call 88; refine (unhide HL).mono ?_; rintro e w' ⟨rfl, rfl⟩)
    | (go_at_call 36; refine (blank_any _).mono ?_; rintro e w' ⟨rfl, rfl⟩))
  refine (add_fits1 (n := docN n p s) ((((unhide HH).alloc _).alloc _).alloc _ |>.alloc _) (news_bare ((((unhide HH).alloc _).alloc _).alloc _ |>.alloc _) _ (by simp [docN, blankM])) hf _ _ (last_block _ _ _ (by simp))).mono ?_
  rintro e w' ⟨rfl, g', cap', har, hmod, hgg⟩
  go_wp2
  go_ret2
  exact ⟨rfl, upd_add (unhide HF) (((((Below.refl _ w).alloc (Nat.le_refl _) _).alloc (by simp) _).alloc (by simp; omega) _).alloc (by simp; omega) _) har hmod hgg (by simp [docN, blankM, Value.ownBlock])⟩

set_option maxHeartbeats 1000000 in
theorem node_no {w : World} {base bA : Nat} {ns : List NodeM} {F : Nat → Prop} (h : ArS w base bA ns F) (k : Int) (hk : hasM ns k = false) :
    Calls Try.prog 18 #[.pointer (some ⟨bA, 0, none⟩), .int .i64 k] w fun e w' => e = .returned (.tuple #[nodeZ, .int .i64 6]) ∧ Below w.heap.size w w' := by
  obtain ⟨bS, g, cap, h, hF⟩ := h
  have HM := hide (fun w' hb => made_yes (w := w') (h.below hb))
  have HH := hide (fun w' hb => has_any (h.below hb) k (w := w'))
  rw [hk] at HH
  have hb0 := Below.refl w.heap.size w
  clear h hF hk
  go_enter Try.func18, Try.ntmps18
  go_wp2_with (first
    | (go_at_call 53; refine ((unhide HM) _ (by first | assumption | exact (Below.refl _ _).alloc (Nat.le_refl _) _)).mono ?_; rintro e w' ⟨rfl, rfl⟩)
    | (go_at_call 54; refine ((unhide HH) _ (by first | assumption | exact (Below.refl _ _).alloc (Nat.le_refl _) _)).mono ?_; rintro e w' ⟨rfl, rfl⟩))
  exact bodyPost_ret (v := .tuple #[nodeZ, .int .i64 6]) (by simp [results, Try.results18, go_sem, nodeZ]) rfl ⟨rfl, by first | assumption | exact (Below.refl _ _).alloc (Nat.le_refl _) _⟩

set_option maxHeartbeats 1000000 in
theorem doctype_full {w : World} {base bA : Nat} {ns : List NodeM} {F : Nat → Prop} (h : ArS w base bA ns F) (n p s : ByteArray) (hs : (longS n || longS p || longS s) = false) (hf : ¬ ns.length + 1 ≤ 32768) :
    Calls Try.prog 69 #[.pointer (some ⟨bA, 0, none⟩), .string n, .string p, .string s] w fun e w' => e = .returned (.tuple #[.int .i64 0, .int .i64 9]) ∧ Below w.heap.size w w' := by
  obtain ⟨bS, g, cap, h, hF⟩ := h
  have HM := hide (made_yes h)
  have HL := hide (anyLong_any (w.alloc (.cells #[.string n, .string p, .string s] 9)) w.heap.size 3 [n, p, s] (threeS w 9 n p s) (by simp))
  have HH := hide h
  have hlong : [n, p, s].any longS = false := by simpa [and_assoc] using hs
  rw [hlong] at HL
  clear h hF hlong
  go_enter Try.func69, Try.ntmps69
  go_wp2_with (first
    | (go_at_call 53; refine (unhide HM).mono ?_; rintro e w' ⟨rfl, rfl⟩)
    | (go_at_call 88; refine (unhide HL).mono ?_; rintro e w' ⟨rfl, rfl⟩)
    | (go_at_call 36; refine (blank_any _).mono ?_; rintro e w' ⟨rfl, rfl⟩))
  refine (add_full ((((unhide HH).alloc _).alloc _).alloc _ |>.alloc _) _ _ 1 (by omega) hf).mono ?_
  rintro e w' ⟨rfl, rfl⟩
  go_wp2
  go_ret2
  exact ⟨rfl, (((((Below.refl _ w).alloc (Nat.le_refl _) _).alloc (by simp) _).alloc (by simp; omega) _).alloc (by simp; omega) _)⟩

theorem setData_none {w : World} {base bA bS g cap : Nat} {ns : List NodeM} (h : Ar w base bA bS g cap ns) (k : Int) (s : ByteArray) (hk : hasM ns k = false) :
    Calls Try.prog 41 #[.pointer (some ⟨bA, 0, none⟩), .int .i64 k, .string s] w fun e w' => e = .returned (.int .i64 6) ∧ w = w' := by
  have HM := hide (made_yes h)
  have HH := hide (has_any h k)
  rw [hk] at HH
  clear h hk
  go_enter Try.func41, Try.ntmps41
  go_wp2_with (first
    | (go_at_call 53; refine (unhide HM).mono ?_; rintro e w' ⟨rfl, rfl⟩)
    | (go_at_call 54; refine (unhide HH).mono ?_; rintro e w' ⟨rfl, rfl⟩))
  go_ret
  exact ⟨rfl, rfl⟩

theorem setData_kind {w : World} {base bA bS g cap : Nat} {ns : List NodeM} (h : Ar w base bA bS g cap ns) (i : Nat) (n : NodeM) (hi : ns[i]? = some n) (s : ByteArray) (h2 : n.kind ≠ 2) (h3 : n.kind ≠ 3) :
    Calls Try.prog 41 #[.pointer (some ⟨bA, 0, none⟩), .int .i64 i, .string s] w fun e w' => e = .returned (.int .i64 10) ∧ w = w' := by
  have li : i < ns.length := (List.getElem?_eq_some_iff.1 hi).1
  have hm := h.most
  have HM := hide (made_yes h)
  have HH := hide (has_any h i)
  have q1 : hasM ns i = true := by simp [hasM, li]
  rw [q1] at HH
  have hA := h.cA
  have hS := h.cS
  have c0 := (h.cells12 hi).1
  have f1 : (n.kind != 2) = true := by simp [h2]
  have f2 : (n.kind != 3) = true := by simp [h3]
  clear h hi q1 h2 h3
  go_enter Try.func41, Try.ntmps41
  go_wp2_with (first
    | (go_at_call 53; refine (unhide HM).mono ?_; rintro e w' ⟨rfl, rfl⟩)
    | (go_at_call 54; refine (unhide HH).mono ?_; rintro e w' ⟨rfl, rfl⟩))
  go_ret
  exact ⟨rfl, rfl⟩

def setDat (s : ByteArray) (n : NodeM) : NodeM := { n with data := s }

set_option maxHeartbeats 1000000 in
theorem setData_yes {w : World} {base bA bS g cap : Nat} {ns : List NodeM} (h : Ar w base bA bS g cap ns) (i : Nat) (n : NodeM) (hi : ns[i]? = some n) (s : ByteArray) (hk : n.kind = 2 ∨ n.kind = 3) (hs : longS s = true) :
    Calls Try.prog 41 #[.pointer (some ⟨bA, 0, none⟩), .int .i64 i, .string s] w fun e w' => e = .returned (.int .i64 2) ∧ Below w.heap.size w w' := by
  have li : i < ns.length := (List.getElem?_eq_some_iff.1 hi).1
  have hm := h.most
  have HM := hide (made_yes h)
  have HH := hide (has_any h i)
  have HL := hide (anyLong_any (w.alloc (.cells #[.string s] 9)) w.heap.size 1 [s] (one_cell_s w 9 s) (by simp))
  have hlong : [s].any longS = true := by simp [hs]
  rw [hlong] at HL
  have q1 : hasM ns i = true := by simp [hasM, li]
  rw [q1] at HH
  have hA := h.cA
  have hS := h.cS
  have c0 := (h.cells12 hi).1
  clear h hi q1 hlong
  rcases hk with hk | hk
  all_goals
    rw [hk] at c0
    clear hk
    go_enter Try.func41, Try.ntmps41
    go_wp2_with (first
      | (go_at_call 53; refine (unhide HM).mono ?_; rintro e w' ⟨rfl, rfl⟩)
      | (go_at_call 54; refine (unhide HH).mono ?_; rintro e w' ⟨rfl, rfl⟩)
      | (go_at_call 88; refine (unhide HL).mono ?_; rintro e w' ⟨rfl, rfl⟩))
    go_ret
    exact ⟨rfl, (Below.refl _ w).alloc (Nat.le_refl _) _⟩

set_option maxHeartbeats 1000000 in
theorem setData_ok {w : World} {base bA bS g cap : Nat} {ns : List NodeM} (h : Ar w base bA bS g cap ns) (i : Nat) (n : NodeM) (hi : ns[i]? = some n) (s : ByteArray) (hk : n.kind = 2 ∨ n.kind = 3) (hs : longS s = false) :
    Calls Try.prog 41 #[.pointer (some ⟨bA, 0, none⟩), .int .i64 i, .string s] w fun e w' => e = .returned (.int .i64 0) ∧ Ar w' base bA bS g cap (upd ns i (setDat s)) ∧ Mod (fun k => k = g) w w' := by
  have li : i < ns.length := (List.getElem?_eq_some_iff.1 hi).1
  have hm := h.most
  have HM := hide (made_yes h)
  have HH := hide (has_any h i)
  have HL := hide (anyLong_any (w.alloc (.cells #[.string s] 9)) w.heap.size 1 [s] (one_cell_s w 9 s) (by simp))
  have hlong : [s].any longS = false := by simp [hs]
  rw [hlong] at HL
  have q1 : hasM ns i = true := by simp [hasM, li]
  rw [q1] at HH
  have hA := h.cA
  have hS := h.cS
  have c0 := (h.cells12 hi).1
  have lt := h.lt
  have h1 := h.alloc (.cells #[.string s] 9)
  obtain ⟨v4, d4⟩ := h1.there li 4 (by omega)
  have g4 := h1.fg
  have H5 := hide ((h.upd li 4 (by omega) (.string s) (setDat s) (fun n => ⟨rfl, rfl, rfl⟩)).alloc (.cells #[.string s] 9))
  clear h hi q1 hlong h1
  rcases hk with hk | hk
  all_goals
    rw [hk] at c0
    clear hk
    go_enter Try.func41, Try.ntmps41
    go_wp2_with (first
      | (go_at_call 53; refine (unhide HM).mono ?_; rintro e w' ⟨rfl, rfl⟩)
      | (go_at_call 54; refine (unhide HH).mono ?_; rintro e w' ⟨rfl, rfl⟩)
      | (go_at_call 88; refine (unhide HL).mono ?_; rintro e w' ⟨rfl, rfl⟩))
    go_ret
    exact ⟨rfl, unhide H5, (Mod.setCell (F := fun k => k = g) w ⟨g, i * 12 + 4, none⟩ _ rfl).trans (Mod.alloc _ _)⟩
end Go.Proofs.Ytlbkoafeedlfaaa
