/-
  findAttr, mayAttr: the place of an attribute; whether a node has attributes.
-/
import Derived.Test.YtlbkoafeedlfaaaCOwn
import Derived.Test.YtlbkoafeedlfaaaCMake
namespace Go.Proofs.Ytlbkoafeedlfaaa
open Go.RowKit

/-- An attribute of that namespace and name. -/
def sameKey (space : Int) (name : ByteArray) (x : AttrM) : Bool := (x.space == space) && (x.name.toList == name.toList)

theorem findFn_any (x : AttrM) (bs bn : Nat) (space : Int) (name : ByteArray) (w : World) (hs : w.cell? ⟨bs, 0, none⟩ = some (.int .i64 space)) (hn : w.cell? ⟨bn, 0, none⟩ = some (.string name)) :
    Calls Try.prog 132 #[x.agg, .pointer (some ⟨bs, 0, none⟩), .pointer (some ⟨bn, 0, none⟩)] w fun e w' => e = .returned (.bool (sameKey space name x)) ∧ Below w.heap.size w w' := by
  have ls : bs < w.heap.size := World.block_lt_of_cell? w _ hs
  have ln : bn < w.heap.size := World.block_lt_of_cell? w _ hn
  have HB := hide ((Below.refl _ w).alloc (Nat.le_refl _) (.cells #[.int .i64 x.space, .string x.pre, .string x.name, .string x.val] 29))
  unfold AttrM.agg
  cases h1 : x.space == space with
  | true =>
    go_enter Try.func132, Try.ntmps132
    go_wp2
    go_ret
    exact ⟨by simp [sameKey, h1], unhide HB⟩
  | false =>
    go_enter Try.func132, Try.ntmps132
    go_wp2
    go_ret
    exact ⟨by simp [sameKey, h1], unhide HB⟩

set_option maxHeartbeats 1000000 in
theorem findAttr_any (w : World) (a : Option Addr) (cap : Nat) (l : List AttrM) (hl : AttrsIn w a l) (hn : l.length ≤ maxLen) (space : Int) (name : ByteArray) :
    Calls Try.prog 98 #[.slice a l.length cap, .int .i64 space, .string name] w fun e w' => e = .returned (.int .i64 (idxM (sameKey space name) l)) ∧ Below w.heap.size w w' := by
  have hb := (((Below.refl _ w).alloc (Nat.le_refl _) (.cells #[.int .i64 space] 3)).alloc (by simp) (.cells #[.string name] 9))
  have c1 : ((w.alloc (.cells #[.int .i64 space] 3)).alloc (.cells #[.string name] 9)).cell? ⟨w.heap.size, 0, none⟩ = some (.int .i64 space) := by simp
  have c2 : ((w.alloc (.cells #[.int .i64 space] 3)).alloc (.cells #[.string name] 9)).cell? ⟨w.heap.size + 1, 0, none⟩ = some (.string name) := by
    exact cell_of_one (t := 9) (by rw [show w.heap.size + 1 = (w.alloc (.cells #[.int .i64 space] 3)).heap.size by simp]; exact heap_alloc_new _ _)
  have HC := hide (indexFunc_any 132 #[.pointer (some ⟨w.heap.size, 0, none⟩), .pointer (some ⟨w.heap.size + 1, 0, none⟩)] enters132 (sameKey space name) ((w.alloc (.cells #[.int .i64 space] 3)).alloc (.cells #[.string name] 9))
    (fun x w1 h1 => findFn_any x _ _ space name w1 ((h1.cell (p := ⟨w.heap.size, 0, none⟩) (by simp; omega)).trans c1) ((h1.cell (p := ⟨w.heap.size + 1, 0, none⟩) (by simp)).trans c2)) a cap l (hl.below hb) hn)
  have HB := hide hb
  clear hb c1 c2 hl
  go_enter Try.func98, Try.ntmps98
  go_wp2_with (first | (go_at_call 131; refine (unhide HC).mono ?_; rintro e w' ⟨rfl, hb⟩))
  go_ret
  exact ⟨rfl, (unhide HB).trans (hb.mono (by simp; omega))⟩

/-- mayAttr's answer. -/
def mayAttrM (ns : List NodeM) (k : Int) : Int := if hasM ns k = false then 6 else if (ns[k.toNat]?).map (·.kind) = some 1 then 0 else 10

theorem mayAttr_any {w : World} {base bA bS g cap : Nat} {ns : List NodeM} (h : Ar w base bA bS g cap ns) (k : Int) :
    Calls Try.prog 96 #[.pointer (some ⟨bA, 0, none⟩), .int .i64 k] w fun e w' => e = .returned (.int .i64 (mayAttrM ns k)) ∧ w = w' := by
  have HM := hide (made_yes h)
  have HH := hide (has_any h k)
  cases hk : hasM ns k with
  | false =>
    have e : mayAttrM ns k = 6 := by simp [mayAttrM, hk]
    rw [e]
    rw [hk] at HH
    clear h e hk
    go_enter Try.func96, Try.ntmps96
    go_wp2_with (first
      | (go_at_call 53; refine (unhide HM).mono ?_; rintro e w' ⟨rfl, rfl⟩)
      | (go_at_call 54; refine (unhide HH).mono ?_; rintro e w' ⟨rfl, rfl⟩))
    go_ret
    exact ⟨rfl, rfl⟩
  | true =>
    obtain ⟨i, rfl, hi⟩ : ∃ i : Nat, k = i ∧ i < ns.length := by
      simp [hasM] at hk
      exact ⟨k.toNat, by omega, by omega⟩
    obtain ⟨n, hn⟩ : ∃ n, ns[i]? = some n := ⟨_, List.getElem?_eq_getElem hi⟩
    have hm := h.most
    have hA := h.cA
    have hS := h.cS
    have c0 := (h.cells12 hn).1
    have e : mayAttrM ns i = if n.kind = 1 then 0 else 10 := by simp [mayAttrM, hk, hn]
    rw [e]
    rw [hk] at HH
    clear h e hk hn
    by_cases h1 : n.kind = 1
    · rw [if_pos h1]
      have f1 : (n.kind != 1) = false := by simp [h1]
      clear h1
      go_enter Try.func96, Try.ntmps96
      go_wp2_with (first
        | (go_at_call 53; refine (unhide HM).mono ?_; rintro e w' ⟨rfl, rfl⟩)
        | (go_at_call 54; refine (unhide HH).mono ?_; rintro e w' ⟨rfl, rfl⟩))
      go_ret
      exact ⟨rfl, rfl⟩
    · rw [if_neg h1]
      have f1 : (n.kind != 1) = true := by simp [h1]
      clear h1
      go_enter Try.func96, Try.ntmps96
      go_wp2_with (first
        | (go_at_call 53; refine (unhide HM).mono ?_; rintro e w' ⟨rfl, rfl⟩)
        | (go_at_call 54; refine (unhide HH).mono ?_; rintro e w' ⟨rfl, rfl⟩))
      go_ret
      exact ⟨rfl, rfl⟩
end Go.Proofs.Ytlbkoafeedlfaaa
