/-
  Doctype, Fragment, SetData; Node of what is no node. findAttr, mayAttr: the place of an attribute; whether a node has attributes. SetAttr: an attribute's value, or an attribute more.
-/
import Derived.Test.YtlbkoafeedlfaaaSBal
import Derived.Test.YtlbkoafeedlfaaaSBam
import Derived.Test.YtlbkoafeedlfaaaSBab
import Derived.Test.YtlbkoafeedlfaaaSBac
import Derived.Test.YtlbkoafeedlfaaaSBae
import Derived.Deep.RegionLaw
import Derived.Deep.AppendLies
namespace Go.Proofs.Ytlbkoafeedlfaaa
open Go.RowKit

set_option maxHeartbeats 1000000 in
theorem fragment_fits {w : World} {base bA : Nat} {ns : List NodeM} {F : Nat → Prop} (h : ArS w base bA ns F) (hf : ns.length + 1 ≤ 32768) :
    Calls Try.prog 71 #[.pointer (some ⟨bA, 0, none⟩)] w fun e w' => e = .returned (.tuple #[.int .i64 ns.length, .int .i64 0]) ∧ Upd F w w' base bA (ns ++ [blankM 5]) := by
  obtain ⟨bS, g, cap, h, hF⟩ := h
  have HF := hide hF
  have HM := hide (made_yes h)
  have HH := hide h
  clear h hF
  go_enter Try.func71, Try.ntmps71
  go_wp2_with (first
    | (go_at_call 53; refine (unhide HM).mono ?_; rintro e w' ⟨rfl, rfl⟩)
    | (go_at_call 36; refine (blank_any _).mono ?_; rintro e w' ⟨rfl, rfl⟩))
  refine (add_fits1 (n := blankM 5) (((unhide HH).alloc _).alloc _) (news_bare (((unhide HH).alloc _).alloc _) _ (by simp [blankM])) hf _ _ (last_block _ _ _ (by simp))).mono ?_
  rintro e w' ⟨rfl, g', cap', har, hmod, hgg⟩
  go_wp2
  go_ret2
  exact ⟨rfl, upd_add (unhide HF) (((Below.refl _ w).alloc (Nat.le_refl _) _).alloc (by simp) _) har hmod hgg (by simp [blankM, Value.ownBlock])⟩

set_option maxHeartbeats 1000000 in
theorem fragment_full {w : World} {base bA : Nat} {ns : List NodeM} {F : Nat → Prop} (h : ArS w base bA ns F) (hf : ¬ ns.length + 1 ≤ 32768) :
    Calls Try.prog 71 #[.pointer (some ⟨bA, 0, none⟩)] w fun e w' => e = .returned (.tuple #[.int .i64 0, .int .i64 9]) ∧ Below w.heap.size w w' := by
  obtain ⟨bS, g, cap, h, hF⟩ := h
  have HM := hide (made_yes h)
  have HH := hide h
  clear h hF
  go_enter Try.func71, Try.ntmps71
  go_wp2_with (first
    | (go_at_call 53; refine (unhide HM).mono ?_; rintro e w' ⟨rfl, rfl⟩)
    | (go_at_call 36; refine (blank_any _).mono ?_; rintro e w' ⟨rfl, rfl⟩))
  refine (add_full (((unhide HH).alloc _).alloc _) _ _ 1 (by omega) hf).mono ?_
  rintro e w' ⟨rfl, rfl⟩
  go_wp2
  go_ret2
  exact ⟨rfl, (((Below.refl _ w).alloc (Nat.le_refl _) _).alloc (by simp) _)⟩

theorem threeS (w : World) (t : TypeId) (x y z : ByteArray) : ∀ j s, [x, y, z][j]? = some s → (w.alloc (.cells #[.string x, .string y, .string z] t)).cell? ⟨w.heap.size, j, none⟩ = some (.string s) := by
  intro j s hj
  match j, hj with
  | 0, hj => simp at hj; subst hj; simp
  | 1, hj => simp at hj; subst hj; simp
  | 2, hj => simp at hj; subst hj; simp

def docN (name pub sys : ByteArray) : NodeM := { blankM 4 with name := name, data := pub, system := sys }

set_option maxHeartbeats 1000000 in
theorem doctype_long {w : World} {base bA : Nat} {ns : List NodeM} {F : Nat → Prop} (h : ArS w base bA ns F) (n p s : ByteArray) (hs : (longS n || longS p || longS s) = true) :
    Calls Try.prog 69 #[.pointer (some ⟨bA, 0, none⟩), .string n, .string p, .string s] w fun e w' => e = .returned (.tuple #[.int .i64 0, .int .i64 2]) ∧ Below w.heap.size w w' := by
  obtain ⟨bS, g, cap, h, hF⟩ := h
  have HM := hide (made_yes h)
  have HL := hide (anyLong_any (w.alloc (.cells #[.string n, .string p, .string s] 9)) w.heap.size 3 [n, p, s] (threeS w 9 n p s) (by simp))
  have hlong : [n, p, s].any longS = true := by simpa [or_assoc] using hs
  rw [hlong] at HL
  clear h hF hlong
  go_enter Try.func69, Try.ntmps69
  go_wp2_with (first
    | (go_at_call 53; refine (unhide HM).mono ?_; rintro e w' ⟨rfl, rfl⟩)
    | (go_at_call 88; refine (unhide HL).mono ?_; rintro e w' ⟨rfl, rfl⟩))
  go_ret2
  exact ⟨rfl, (Below.refl _ w).alloc (Nat.le_refl _) _⟩

set_option maxHeartbeats 1000000 in
theorem doctype_fits {w : World} {base bA : Nat} {ns : List NodeM} {F : Nat → Prop} (h : ArS w base bA ns F) (n p s : ByteArray) (hs : (longS n || longS p || longS s) = false) (hf : ns.length + 1 ≤ 32768) :
    Calls Try.prog 69 #[.pointer (some ⟨bA, 0, none⟩), .string n, .string p, .string s] w fun e w' => e = .returned (.tuple #[.int .i64 ns.length, .int .i64 0]) ∧ Upd F w w' base bA (ns ++ [docN n p s]) := by
  obtain ⟨bS, g, cap, h, hF⟩ := h
  have HF := hide hF
  have HM := hide (made_yes h)
  have HL := hide (anyLong_any (w.alloc (.cells #[.string n, .string p, .string s] 9)) w.heap.size 3 [n, p, s] (threeS w 9 n p s) (by simp))
  have HH := hide h
  have hlong : [n, p, s].any longS = false := by simpa [and_assoc] using hs
  rw [hlong] at HL
  clear h hF hlong
  go_enter Try.func69, Try.ntmps69
  go_wp2_with (first
    | (go_at_call 53; refine (unhide HM).mono ?_; rintro e w' ⟨rfl, rfl⟩)
    | (go_at_call 88; refine (unhide HL).mono ?_; rintro e w' ⟨rfl, rfl⟩)
    | (go_at_call 36; refine (blank_any _).mono ?_; rintro e w' ⟨rfl, rfl⟩))
  refine (add_fits1 (n := docN n p s) ((((unhide HH).alloc _).alloc _).alloc _ |>.alloc _) (news_bare ((((unhide HH).alloc _).alloc _).alloc _ |>.alloc _) _ (by simp [docN, blankM])) hf _ _ (last_block _ _ _ (by simp))).mono ?_
  rintro e w' ⟨rfl, g', cap', har, hmod, hgg⟩
  go_wp2
  go_ret2
  exact ⟨rfl, upd_add (unhide HF) (((((Below.refl _ w).alloc (Nat.le_refl _) _).alloc (by simp) _).alloc (by simp; omega) _).alloc (by simp; omega) _) har hmod hgg (by simp [docN, blankM, Value.ownBlock])⟩

set_option maxHeartbeats 1000000 in
theorem node_no {w : World} {base bA : Nat} {ns : List NodeM} {F : Nat → Prop} (h : ArS w base bA ns F) (k : Int) (hk : hasM ns k = false) :
    Calls Try.prog 18 #[.pointer (some ⟨bA, 0, none⟩), .int .i64 k] w fun e w' => e = .returned (.tuple #[nodeZ, .int .i64 6]) ∧ Below w.heap.size w w' := by
  obtain ⟨bS, g, cap, h, hF⟩ := h
  have HM := hide (fun w' hb => made_yes (w := w') (h.below hb))
  have HH := hide (fun w' hb => has_any (h.below hb) k (w := w'))
  rw [hk] at HH
  have hb0 := Below.refl w.heap.size w
  clear h hF hk
  go_enter Try.func18, Try.ntmps18
  go_wp2_with (first
    | (go_at_call 53; refine ((unhide HM) _ (by first | assumption | exact (Below.refl _ _).alloc (Nat.le_refl _) _)).mono ?_; rintro e w' ⟨rfl, rfl⟩)
    | (go_at_call 54; refine ((unhide HH) _ (by first | assumption | exact (Below.refl _ _).alloc (Nat.le_refl _) _)).mono ?_; rintro e w' ⟨rfl, rfl⟩))
  exact bodyPost_ret (v := .tuple #[nodeZ, .int .i64 6]) (by simp [results, Try.results18, go_sem, nodeZ]) rfl ⟨rfl, by first | assumption | exact (Below.refl _ _).alloc (Nat.le_refl _) _⟩

set_option maxHeartbeats 1000000 in
theorem doctype_full {w : World} {base bA : Nat} {ns : List NodeM} {F : Nat → Prop} (h : ArS w base bA ns F) (n p s : ByteArray) (hs : (longS n || longS p || longS s) = false) (hf : ¬ ns.length + 1 ≤ 32768) :
    Calls Try.prog 69 #[.pointer (some ⟨bA, 0, none⟩), .string n, .string p, .string s] w fun e w' => e = .returned (.tuple #[.int .i64 0, .int .i64 9]) ∧ Below w.heap.size w w' := by
  obtain ⟨bS, g, cap, h, hF⟩ := h
  have HM := hide (made_yes h)
  have HL := hide (anyLong_any (w.alloc (.cells #[.string n, .string p, .string s] 9)) w.heap.size 3 [n, p, s] (threeS w 9 n p s) (by simp))
  have HH := hide h
  have hlong : [n, p, s].any longS = false := by simpa [and_assoc] using hs
  rw [hlong] at HL
  clear h hF hlong
  go_enter Try.func69, Try.ntmps69
  go_wp2_with (first
    | (go_at_call 53; refine (unhide HM).mono ?_; rintro e w' ⟨rfl, rfl⟩)
    | (go_at_call 88; refine (unhide HL).mono ?_; rintro e w' ⟨rfl, rfl⟩)
    | (go_at_call 36; refine (blank_any _).mono ?_; rintro e w' ⟨rfl, rfl⟩))
  refine (add_full ((((unhide HH).alloc _).alloc _).alloc _ |>.alloc _) _ _ 1 (by omega) hf).mono ?_
  rintro e w' ⟨rfl, rfl⟩
  go_wp2
  go_ret2
  exact ⟨rfl, (((((Below.refl _ w).alloc (Nat.le_refl _) _).alloc (by simp) _).alloc (by simp; omega) _).alloc (by simp; omega) _)⟩

theorem setData_none {w : World} {base bA bS g cap : Nat} {ns : List NodeM} (h : Ar w base bA bS g cap ns) (k : Int) (s : ByteArray) (hk : hasM ns k = false) :
    Calls Try.prog 41 #[.pointer (some ⟨bA, 0, none⟩), .int .i64 k, .string s] w fun e w' => e = .returned (.int .i64 6) ∧ w = w' := by
  have HM := hide (made_yes h)
  have HH := hide (has_any h k)
  rw [hk] at HH
  clear h hk
  go_enter Try.func41, Try.ntmps41
  go_wp2_with (first
    | (go_at_call 53; refine (unhide HM).mono ?_; rintro e w' ⟨rfl, rfl⟩)
    | (go_at_call 54; refine (unhide HH).mono ?_; rintro e w' ⟨rfl, rfl⟩))
  go_ret
  exact ⟨rfl, rfl⟩

theorem setData_kind {w : World} {base bA bS g cap : Nat} {ns : List NodeM} (h : Ar w base bA bS g cap ns) (i : Nat) (n : NodeM) (hi : ns[i]? = some n) (s : ByteArray) (h2 : n.kind ≠ 2) (h3 : n.kind ≠ 3) :
    Calls Try.prog 41 #[.pointer (some ⟨bA, 0, none⟩), .int .i64 i, .string s] w fun e w' => e = .returned (.int .i64 10) ∧ w = w' := by
  have li : i < ns.length := (List.getElem?_eq_some_iff.1 hi).1
  have hm := h.most
  have HM := hide (made_yes h)
  have HH := hide (has_any h i)
  have q1 : hasM ns i = true := by simp [hasM, li]
  rw [q1] at HH
  have hA := h.cA
  have hS := h.cS
  have c0 := (h.cells12 hi).1
  have f1 : (n.kind != 2) = true := by simp [h2]
  have f2 : (n.kind != 3) = true := by simp [h3]
  clear h hi q1 h2 h3
  go_enter Try.func41, Try.ntmps41
  go_wp2_with (first
    | (go_at_call 53; refine (unhide HM).mono ?_; rintro e w' ⟨rfl, rfl⟩)
    | (go_at_call 54; refine (unhide HH).mono ?_; rintro e w' ⟨rfl, rfl⟩))
  go_ret
  exact ⟨rfl, rfl⟩

def setDat (s : ByteArray) (n : NodeM) : NodeM := { n with data := s }

set_option maxHeartbeats 1000000 in
theorem setData_yes {w : World} {base bA bS g cap : Nat} {ns : List NodeM} (h : Ar w base bA bS g cap ns) (i : Nat) (n : NodeM) (hi : ns[i]? = some n) (s : ByteArray) (hk : n.kind = 2 ∨ n.kind = 3) (hs : longS s = true) :
    Calls Try.prog 41 #[.pointer (some ⟨bA, 0, none⟩), .int .i64 i, .string s] w fun e w' => e = .returned (.int .i64 2) ∧ Below w.heap.size w w' := by
  have li : i < ns.length := (List.getElem?_eq_some_iff.1 hi).1
  have hm := h.most
  have HM := hide (made_yes h)
  have HH := hide (has_any h i)
  have HL := hide (anyLong_any (w.alloc (.cells #[.string s] 9)) w.heap.size 1 [s] (one_cell_s w 9 s) (by simp))
  have hlong : [s].any longS = true := by simp [hs]
  rw [hlong] at HL
  have q1 : hasM ns i = true := by simp [hasM, li]
  rw [q1] at HH
  have hA := h.cA
  have hS := h.cS
  have c0 := (h.cells12 hi).1
  clear h hi q1 hlong
  rcases hk with hk | hk
  all_goals
    rw [hk] at c0
    clear hk
    go_enter Try.func41, Try.ntmps41
    go_wp2_with (first
      | (go_at_call 53; refine (unhide HM).mono ?_; rintro e w' ⟨rfl, rfl⟩)
      | (go_at_call 54; refine (unhide HH).mono ?_; rintro e w' ⟨rfl, rfl⟩)
      | (go_at_call 88; refine (unhide HL).mono ?_; rintro e w' ⟨rfl, rfl⟩))
    go_ret
    exact ⟨rfl, (Below.refl _ w).alloc (Nat.le_refl _) _⟩

set_option maxHeartbeats 1000000 in
theorem setData_ok {w : World} {base bA bS g cap : Nat} {ns : List NodeM} (h : Ar w base bA bS g cap ns) (i : Nat) (n : NodeM) (hi : ns[i]? = some n) (s : ByteArray) (hk : n.kind = 2 ∨ n.kind = 3) (hs : longS s = false) :
    Calls Try.prog 41 #[.pointer (some ⟨bA, 0, none⟩), .int .i64 i, .string s] w fun e w' => e = .returned (.int .i64 0) ∧ Ar w' base bA bS g cap (upd ns i (setDat s)) ∧ Mod (fun k => k = g) w w' := by
  have li : i < ns.length := (List.getElem?_eq_some_iff.1 hi).1
  have hm := h.most
  have HM := hide (made_yes h)
  have HH := hide (has_any h i)
  have HL := hide (anyLong_any (w.alloc (.cells #[.string s] 9)) w.heap.size 1 [s] (one_cell_s w 9 s) (by simp))
  have hlong : [s].any longS = false := by simp [hs]
  rw [hlong] at HL
  have q1 : hasM ns i = true := by simp [hasM, li]
  rw [q1] at HH
  have hA := h.cA
  have hS := h.cS
  have c0 := (h.cells12 hi).1
  have lt := h.lt
  have h1 := h.alloc (.cells #[.string s] 9)
  obtain ⟨v4, d4⟩ := h1.there li 4 (by omega)
  have g4 := h1.fg
  have H5 := hide ((h.upd li 4 (by omega) (.string s) (setDat s) (fun n => ⟨rfl, rfl, rfl⟩)).alloc (.cells #[.string s] 9))
  clear h hi q1 hlong h1
  rcases hk with hk | hk
  all_goals
    rw [hk] at c0
    clear hk
    go_enter Try.func41, Try.ntmps41
    go_wp2_with (first
      | (go_at_call 53; refine (unhide HM).mono ?_; rintro e w' ⟨rfl, rfl⟩)
      | (go_at_call 54; refine (unhide HH).mono ?_; rintro e w' ⟨rfl, rfl⟩)
      | (go_at_call 88; refine (unhide HL).mono ?_; rintro e w' ⟨rfl, rfl⟩))
    go_ret
    exact ⟨rfl, unhide H5, (Mod.setCell (F := fun k => k = g) w ⟨g, i * 12 + 4, none⟩ _ rfl).trans (Mod.alloc _ _)⟩
end Go.Proofs.Ytlbkoafeedlfaaa

namespace Go.Proofs.Ytlbkoafeedlfaaa
open Go.RowKit

/-- An attribute of that namespace and name. -/
def sameKey (space : Int) (name : ByteArray) (x : AttrM) : Bool := (x.space == space) && (x.name.toList == name.toList)

theorem findFn_any (x : AttrM) (bs bn : Nat) (space : Int) (name : ByteArray) (w : World) (hs : w.cell? ⟨bs, 0, none⟩ = some (.int .i64 space)) (hn : w.cell? ⟨bn, 0, none⟩ = some (.string name)) :
    Calls Try.prog 132 #[x.agg, .pointer (some ⟨bs, 0, none⟩), .pointer (some ⟨bn, 0, none⟩)] w fun e w' => e = .returned (.bool (sameKey space name x)) ∧ Below w.heap.size w w' := by
  have ls : bs < w.heap.size := World.block_lt_of_cell? w _ hs
  have ln : bn < w.heap.size := World.block_lt_of_cell? w _ hn
  have HB := hide ((Below.refl _ w).alloc (Nat.le_refl _) (.cells #[.int .i64 x.space, .string x.pre, .string x.name, .string x.val] 29))
  unfold AttrM.agg
  cases h1 : x.space == space with
  | true =>
    go_enter Try.func132, Try.ntmps132
    go_wp2
    go_ret
    exact ⟨by simp [sameKey, h1], unhide HB⟩
  | false =>
    go_enter Try.func132, Try.ntmps132
    go_wp2
    go_ret
    exact ⟨by simp [sameKey, h1], unhide HB⟩

set_option maxHeartbeats 1000000 in
theorem findAttr_any (w : World) (a : Option Addr) (cap : Nat) (l : List AttrM) (hl : AttrsIn w a l) (hn : l.length ≤ maxLen) (space : Int) (name : ByteArray) :
    Calls Try.prog 98 #[.slice a l.length cap, .int .i64 space, .string name] w fun e w' => e = .returned (.int .i64 (idxM (sameKey space name) l)) ∧ Below w.heap.size w w' := by
  have hb := (((Below.refl _ w).alloc (Nat.le_refl _) (.cells #[.int .i64 space] 3)).alloc (by simp) (.cells #[.string name] 9))
  have c1 : ((w.alloc (.cells #[.int .i64 space] 3)).alloc (.cells #[.string name] 9)).cell? ⟨w.heap.size, 0, none⟩ = some (.int .i64 space) := by simp
  have c2 : ((w.alloc (.cells #[.int .i64 space] 3)).alloc (.cells #[.string name] 9)).cell? ⟨w.heap.size + 1, 0, none⟩ = some (.string name) := by
    exact cell_of_one (t := 9) (by rw [show w.heap.size + 1 = (w.alloc (.cells #[.int .i64 space] 3)).heap.size by simp]; exact heap_alloc_new _ _)
  have HC := hide (indexFunc_any 132 #[.pointer (some ⟨w.heap.size, 0, none⟩), .pointer (some ⟨w.heap.size + 1, 0, none⟩)] enters132 (sameKey space name) ((w.alloc (.cells #[.int .i64 space] 3)).alloc (.cells #[.string name] 9))
    (fun x w1 h1 => findFn_any x _ _ space name w1 ((h1.cell (p := ⟨w.heap.size, 0, none⟩) (by simp; omega)).trans c1) ((h1.cell (p := ⟨w.heap.size + 1, 0, none⟩) (by simp)).trans c2)) a cap l (hl.below hb) hn)
  have HB := hide hb
  clear hb c1 c2 hl
  go_enter Try.func98, Try.ntmps98
  go_wp2_with (first | (go_at_call 131; refine (unhide HC).mono ?_; rintro e w' ⟨rfl, hb⟩))
  go_ret
  exact ⟨rfl, (unhide HB).trans (hb.mono (by simp; omega))⟩

/-- mayAttr's answer. -/
def mayAttrM (ns : List NodeM) (k : Int) : Int := if hasM ns k = false then 6 else if (ns[k.toNat]?).map (·.kind) = some 1 then 0 else 10

theorem mayAttr_any {w : World} {base bA bS g cap : Nat} {ns : List NodeM} (h : Ar w base bA bS g cap ns) (k : Int) :
    Calls Try.prog 96 #[.pointer (some ⟨bA, 0, none⟩), .int .i64 k] w fun e w' => e = .returned (.int .i64 (mayAttrM ns k)) ∧ w = w' := by
  have HM := hide (made_yes h)
  have HH := hide (has_any h k)
  cases hk : hasM ns k with
  | false =>
    have e : mayAttrM ns k = 6 := by simp [mayAttrM, hk]
    rw [e]
    rw [hk] at HH
    clear h e hk
    go_enter Try.func96, Try.ntmps96
    go_wp2_with (first
      | (go_at_call 53; refine (unhide HM).mono ?_; rintro e w' ⟨rfl, rfl⟩)
      | (go_at_call 54; refine (unhide HH).mono ?_; rintro e w' ⟨rfl, rfl⟩))
    go_ret
    exact ⟨rfl, rfl⟩
  | true =>
    obtain ⟨i, rfl, hi⟩ : ∃ i : Nat, k = i ∧ i < ns.length := by
      simp [hasM] at hk
      exact ⟨k.toNat, by omega, by omega⟩
    obtain ⟨n, hn⟩ : ∃ n, ns[i]? = some n := ⟨_, List.getElem?_eq_getElem hi⟩
    have hm := h.most
    have hA := h.cA
    have hS := h.cS
    have c0 := (h.cells12 hn).1
    have e : mayAttrM ns i = if n.kind = 1 then 0 else 10 := by simp [mayAttrM, hk, hn]
    rw [e]
    rw [hk] at HH
    clear h e hk hn
    by_cases h1 : n.kind = 1
    · rw [if_pos h1]
      have f1 : (n.kind != 1) = false := by simp [h1]
      clear h1
      go_enter Try.func96, Try.ntmps96
      go_wp2_with (first
        | (go_at_call 53; refine (unhide HM).mono ?_; rintro e w' ⟨rfl, rfl⟩)
        | (go_at_call 54; refine (unhide HH).mono ?_; rintro e w' ⟨rfl, rfl⟩))
      go_ret
      exact ⟨rfl, rfl⟩
    · rw [if_neg h1]
      have f1 : (n.kind != 1) = true := by simp [h1]
      clear h1
      go_enter Try.func96, Try.ntmps96
      go_wp2_with (first
        | (go_at_call 53; refine (unhide HM).mono ?_; rintro e w' ⟨rfl, rfl⟩)
        | (go_at_call 54; refine (unhide HH).mono ?_; rintro e w' ⟨rfl, rfl⟩))
      go_ret
      exact ⟨rfl, rfl⟩
end Go.Proofs.Ytlbkoafeedlfaaa

namespace Go.Proofs.Ytlbkoafeedlfaaa
open Go.RowKit

theorem nodeRow_same {ns : List NodeM} {i : Nat} {n m : NodeM} (hi : ns[i]? = some n) (hm : m.cells = n.cells) : nodeRow (ns.set i m) = nodeRow ns := by
  have h0 : n.cells = n.cells.set 0 (.int .i64 n.kind) := by simp [NodeM.cells]
  have e1 := flat_set NodeM.cells 12 node_len ns i 0 (by omega) n m (.int .i64 n.kind) hi (by rw [hm]; exact h0)
  have e2 := flat_set NodeM.cells 12 node_len ns i 0 (by omega) n n (.int .i64 n.kind) hi h0
  have hlt : i < ns.length := (List.getElem?_eq_some_iff.1 hi).1
  have e3 : ns.set i n = ns := by
    apply List.ext_getElem?
    intro j
    by_cases h : i = j
    · subst h; rw [List.getElem?_set_self hlt]; exact hi.symm
    · rw [List.getElem?_set_ne h]
  rw [nodeRow, nodeRow, ← e1, e2, e3]

section
variable {w w1 : World} {base bA bS g cap : Nat} {ns : List NodeM}

theorem Ar.attrsOnly (h : Ar w base bA bS g cap ns) {i : Nat} {n : NodeM} (hi : ns[i]? = some n) (l : List AttrM) (hl : l.length ≤ 1024) (hown : Seg w1 base n.av l.length (attrRow l)) (hout : Out n.av w w1)
    (hold : ∀ k, foot bA bS g ns k → n.av.ownBlock ≠ some k → w1.heap[k]? = w.heap[k]?) : Ar w1 base bA bS g cap (ns.set i { n with attrs := l }) := by
  have hlt : i < ns.length := (List.getElem?_eq_some_iff.1 hi).1
  have hne := h.neAttr hi
  have old : ∀ (a : Nat) (x : NodeM), (ns.set i { n with attrs := l })[a]? = some x → (a = i ∧ x = { n with attrs := l }) ∨ (a ≠ i ∧ ns[a]? = some x) := by
    intro a x hx
    by_cases e : i = a
    · subst e; rw [List.getElem?_set_self hlt] at hx; simp at hx; exact .inl ⟨rfl, hx.symm⟩
    · rw [List.getElem?_set_ne e] at hx; exact .inr ⟨fun e' => e e'.symm, hx⟩
  refine ⟨by rw [hold bA (.inl rfl) hne.2.2]; exact h.arena, by rw [hold bS (.inr (.inl rfl)) hne.2.1, List.length_set]; exact h.store, ?_, h.lo1, h.lo2, by simpa using h.pos, by simpa using h.most, ?_, ?_, ?_⟩
  · rw [List.length_set, nodeRow_same hi (by rfl)]
    exact ownsRow_kept h.row (fun k hk => by simp [Value.ownBlock] at hk; subst hk; exact hold _ (.inr (.inr (.inl rfl))) hne.1)
  · intro a x hx
    rcases old a x hx with ⟨_, rfl⟩ | ⟨ha, hx'⟩
    · exact hown
    · exact (h.attrs a x hx').away (h.attrs i n hi) (h.apart i a n x (fun e => ha e.symm) hi hx') hout (fun k hk hne => hold k (.inr (.inr (.inr ⟨x, List.mem_of_getElem? hx', hk⟩))) hne)
  · intro a x hx
    rcases old a x hx with ⟨_, rfl⟩ | ⟨ha, hx'⟩
    · exact hl
    · exact h.few a x hx'
  · intro a b x y hab hx hy
    rcases old a x hx with ⟨ea, rfl⟩ | ⟨ha, hx'⟩ <;> rcases old b y hy with ⟨eb, rfl⟩ | ⟨hb, hy'⟩
    · omega
    · exact h.apart i b n y (by omega) hi hy'
    · exact h.apart a i x n (by omega) hx' hi
    · exact h.apart a b x y hab hx' hy'

theorem Ar.newAttrs (h : Ar w base bA bS g cap ns) {i : Nat} {n : NodeM} (hi : ns[i]? = some n) (av : Value) (l : List AttrM) (hl : l.length ≤ 1024) (hown : Seg w1 base av l.length (attrRow l)) (hout : Out n.av w w1)
    (hold : ∀ k, foot bA bS g ns k → n.av.ownBlock ≠ some k → w1.heap[k]? = w.heap[k]?) (hnew : ∀ k, av.ownBlock = some k → n.av.ownBlock = some k ∨ w.heap.size ≤ k) (hroom : ∀ k o m c, av = .slice (some ⟨k, o, none⟩) m c → k < w.heap.size → ∃ m', n.av = .slice (some ⟨k, o, none⟩) m' c) :
    Ar (w1.setCell ⟨g, i * 12 + 3, none⟩ av) base bA bS g cap (ns.set i { n with av := av, attrs := l }) := by
  have hlt : i < ns.length := (List.getElem?_eq_some_iff.1 hi).1
  have hne := h.neAttr hi
  have hoth : ∀ k, k ≠ g → (w1.setCell ⟨g, i * 12 + 3, none⟩ av).heap[k]? = w1.heap[k]? := fun k hk => Below.heap_setCell _ _ _ _ hk
  have old : ∀ (a : Nat) (x : NodeM), (ns.set i { n with av := av, attrs := l })[a]? = some x → (a = i ∧ x = { n with av := av, attrs := l }) ∨ (a ≠ i ∧ ns[a]? = some x) := by
    intro a x hx
    by_cases e : i = a
    · subst e; rw [List.getElem?_set_self hlt] at hx; simp at hx; exact .inl ⟨rfl, hx.symm⟩
    · rw [List.getElem?_set_ne e] at hx; exact .inr ⟨fun e' => e e'.symm, hx⟩
  have avg : av.ownBlock ≠ some g := by
    intro e
    rcases hnew g e with h1 | h1
    · exact hne.1 h1
    · have := h.lt.2.2; omega
  have oldlt : ∀ (a : Nat) x, ns[a]? = some x → ∀ k, x.av.ownBlock = some k → k < w.heap.size := fun a x hx k hk => (h.foot_lt (.inr (.inr (.inr ⟨x, List.mem_of_getElem? hx, hk⟩)))).2
  have row1 : w1.ownsRow base 37 12 (.slice (some ⟨g, 0, none⟩) ns.length cap) ns.length (nodeRow ns) := ownsRow_kept h.row (fun k hk => by simp [Value.ownBlock] at hk; subst hk; exact hold _ (.inr (.inr (.inl rfl))) hne.1)
  refine ⟨by rw [hoth bA h.neAg, hold bA (.inl rfl) hne.2.2]; exact h.arena, by rw [hoth bS h.neSg, hold bS (.inr (.inl rfl)) hne.2.1, List.length_set]; exact h.store, ?_, h.lo1, h.lo2, by simpa using h.pos, by simpa using h.most, ?_, ?_, ?_⟩
  · rw [List.length_set, nodeRow, ← flat_set NodeM.cells 12 node_len ns i 3 (by omega) n { n with av := av, attrs := l } av hi (by simp [NodeM.cells])]
    exact (row1.stored (i * 12 + 3) av).1
  · intro a x hx
    rcases old a x hx with ⟨_, rfl⟩ | ⟨ha, hx'⟩
    · exact hown.other avg _
    · exact ((h.attrs a x hx').away (h.attrs i n hi) (h.apart i a n x (fun e => ha e.symm) hi hx') hout (fun k hk hne => hold k (.inr (.inr (.inr ⟨x, List.mem_of_getElem? hx', hk⟩))) hne)).other (h.neAttr hx').1 _
  · intro a x hx
    rcases old a x hx with ⟨_, rfl⟩ | ⟨ha, hx'⟩
    · exact hl
    · exact h.few a x hx'
  · have key : ∀ (b : Nat) y, b ≠ i → ns[b]? = some y → Away av y.av := by
      intro b y hb hy k o m c o' m' c' h1 h2
      have hlt := oldlt b y hy k (by rw [h2]; rfl)
      obtain ⟨m2, h3⟩ := hroom k o m c h1 hlt
      exact h.apart i b n y (fun e => hb e.symm) hi hy k o m2 c o' m' c' h3 h2
    intro a b x y hab hx hy
    rcases old a x hx with ⟨ea, rfl⟩ | ⟨ha, hx'⟩ <;> rcases old b y hy with ⟨eb, rfl⟩ | ⟨hb, hy'⟩
    · omega
    · exact key b y hb hy'
    · exact (key a x ha hx').symm
    · exact h.apart a b x y hab hx' hy'
end

/-- The list with another value at j. -/
def setVal (l : List AttrM) (j : Nat) (v : ByteArray) : List AttrM := match l[j]? with | some x => l.set j { x with val := v } | none => l

theorem setVal_of {l : List AttrM} {j : Nat} {x : AttrM} (h : l[j]? = some x) (v : ByteArray) : setVal l j v = l.set j { x with val := v } := by simp [setVal, h]
theorem setVal_len (l : List AttrM) (j : Nat) (v : ByteArray) : (setVal l j v).length = l.length := by unfold setVal; split <;> simp

theorem idxM_lt {p : AttrM → Bool} {l : List AttrM} (h : ¬ idxM p l < 0) : ∃ j : Nat, idxM p l = j ∧ j < l.length := by
  unfold idxM at *
  cases hf : l.findIdx? p with
  | none => rw [hf] at h; simp at h
  | some j =>
    have := List.findIdx?_eq_some_iff_getElem.1 hf
    obtain ⟨hj, _⟩ := this
    exact ⟨j, rfl, hj⟩
end Go.Proofs.Ytlbkoafeedlfaaa
