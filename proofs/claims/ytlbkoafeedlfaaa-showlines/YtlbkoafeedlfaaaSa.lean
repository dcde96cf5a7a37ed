/-
  Package show's alike, and slices.Equal of attributes.
-/
import Derived.Test.YtlbkoafeedlfaaaTr
import Derived.Test.YtlbkoafeedlfaaaSp
namespace Go.Proofs.Ytlbkoafeedlfaaa
open Go.RowKit

theorem attrsEq_len : ∀ {l m : List AttrM}, attrsEq l m = true → l.length = m.length
  | [], [], _ => rfl
  | [], _ :: _, h => by cases h
  | _ :: _, [], h => by cases h
  | a :: l, b :: m, h => by
    rw [attrsEq, Bool.and_eq_true] at h
    simp [attrsEq_len h.2]
theorem attrsEq_no : ∀ {l m : List AttrM} {j : Nat} {x y : AttrM}, l[j]? = some x → m[j]? = some y → attrEq x y = false → attrsEq l m = false
  | [], _, _, _, _, h, _, _ => by simp at h
  | _ :: _, [], _, _, _, _, h, _ => by simp at h
  | a :: l, b :: m, 0, x, y, h1, h2, h3 => by
    simp at h1 h2; subst h1 h2; rw [attrsEq, h3]; rfl
  | a :: l, b :: m, j + 1, x, y, h1, h2, h3 => by
    rw [attrsEq, attrsEq_no (l := l) (m := m) (j := j) (by simpa using h1) (by simpa using h2) h3]; simp
theorem attrsEq_yes : ∀ {l m : List AttrM}, l.length = m.length → (∀ (j : Nat) x y, l[j]? = some x → m[j]? = some y → attrEq x y = true) → attrsEq l m = true
  | [], [], _, _ => rfl
  | [], _ :: _, h, _ => by simp at h
  | _ :: _, [], h, _ => by simp at h
  | a :: l, b :: m, h, h2 => by
    rw [attrsEq, h2 0 a b rfl rfl, attrsEq_yes (by simpa using h) (fun j x y hx hy => h2 (j + 1) x y (by simpa using hx) (by simpa using hy))]; rfl

theorem eqAttr (a b : AttrM) (w : World) : (Op.equalIn 10000 29 (.agg #[.int .i64 a.space, .string a.pre, .string a.name, .string a.val]) (.agg #[.int .i64 b.space, .string b.pre, .string b.name, .string b.val])).run Try.prog w = .ok (attrEq a b) w := by
  have u3 := Try.underlying3
  have a3 := Try.isAgg3
  have z3 := Try.sizeOf3
  have u9 := Try.underlying9
  have a9 := Try.isAgg9
  have z9 := Try.sizeOf9
  have hS : Try.prog.underlying 29 = some (.struct (Try.prog.fieldsOf 29)) := by kernel_rfl
  have hp : Try.prog.stoodInHeld 29 = false := by kernel_rfl
  rw [show (10000 : Nat) = 9999 + 1 from rfl, run_equalIn_agg w 9999 29 _ _ hS hp]
  simp only [Program.fieldsOf, Try.underlying29]
  go_simp
  unfold attrEq
  simp only [beq_toListBytes]
  by_cases h0 : a.space = b.space <;> by_cases h1 : a.pre.toList = b.pre.toList <;> by_cases h2 : a.name.toList = b.name.toList <;> by_cases h3 : a.val.toList = b.val.toList <;> simp [h0, h1, h2, h3]

theorem neqAttr (a b : AttrM) (w : World) : (binOp .neq 29 (.agg #[.int .i64 a.space, .string a.pre, .string a.name, .string a.val]) (.agg #[.int .i64 b.space, .string b.pre, .string b.name, .string b.val])).run Try.prog w = .ok (.bool (!attrEq a b)) w := by
  rw [run_neq_struct, eqAttr]; rfl
theorem guard29 : Try.prog.eqGuardType Try.prog.depth 29 = false := by kernel_rfl

set_option maxHeartbeats 4000000 in
set_option maxRecDepth 10000 in
theorem equal_any {w : World} (a b : Option Addr) (ca cb : Nat) (l m : List AttrM) (ha : AttrsIn w a l) (hb : AttrsIn w b m) (hl : l.length ≤ 1024) :
    Calls Try.prog 122 #[.slice a l.length ca, .slice b m.length cb] w fun e w' => e = .returned (.bool (attrsEq l m)) ∧ Below w.heap.size w w' := by
  have HA := hide ha
  have HB := hide hb
  clear ha hb
  by_cases hlen : l.length = m.length
  · have hzz : ((l.length : Int) != (m.length : Int)) = false := by simp [hlen]
    have hlz : (l.length : Int) ≤ 1024 := by omega
    have HL := hide hlen
    clear hlen hl
    go_enter Try.func122, Try.ntmps122
    go_wp2
    go_loopg [5, 13] l.length (fun k _ s wx => ∃ j : Nat, s = .int .i64 j ∧ j + k = l.length ∧ Below w.heap.size w wx ∧ ∀ (i : Nat) x y, i < j → l[i]? = some x → m[i]? = some y → attrEq x y = true)
    case atStart => exact ⟨0, rfl, by omega, Below.refl _ _, fun i x y h => by omega⟩
    case round =>
      obtain ⟨j, rfl, hjk, hb, hpre⟩ := hrel
      have HP := hide hpre
      clear hpre
      by_cases hj : j < l.length
      · obtain ⟨x, hx⟩ : ∃ x, l[j]? = some x := ⟨_, List.getElem?_eq_getElem hj⟩
        obtain ⟨y, hy⟩ : ∃ y, m[j]? = some y := ⟨_, List.getElem?_eq_getElem (by rw [← unhide HL]; exact hj)⟩
        have hjz : (j : Int) < (l.length : Int) := by omega
        have hjm : (j : Int) < (m.length : Int) := by rw [← unhide HL]; exact hjz
        obtain ⟨ba, oa, rfl, a0, a1, a2, a3⟩ := ((unhide HA).below hb).cells j _ hx
        obtain ⟨bb, ob, rfl, b0, b1, b2, b3⟩ := ((unhide HB).below hb).cells j _ hy
        have HBW := hide hb
        have HX := hide hx
        have HY := hide hy
        clear hx hb hy
        cases he : attrEq x y with
        | true =>
          have HE := hide he
          have hg := guard29
          have hq := fun W => neqAttr x y W
          rw [he] at hq
          clear he
          go_wp2
          go_quiet (fail)
          go_wp2
          go_roundg (gk - 1)
          case measure => omega
          case rel =>
            refine ⟨j + 1, by go_num, by omega, below_drewN' (unhide HBW) _, fun i x' y' hi hx' hy' => ?_⟩
            by_cases e : i = j
            · subst e; rw [unhide HX] at hx'; rw [unhide HY] at hy'; cases hx'; cases hy'; exact unhide HE
            · exact (unhide HP) i x' y' (by omega) hx' hy'
        | false =>
          have HE := hide he
          have hg := guard29
          have hq := fun W => neqAttr x y W
          rw [he] at hq
          clear he
          go_wp2
          go_quiet (fail)
          go_wp2
          go_ret
          refine ⟨?_, below_drewN' (unhide HBW) _⟩
          rw [attrsEq_no (unhide HX) (unhide HY) (unhide HE)]
          rfl
      · have hjz : ¬ (j : Int) < (l.length : Int) := by omega
        go_wp2
        go_ret
        refine ⟨?_, hb⟩
        rw [attrsEq_yes (unhide HL) (fun i x y hx hy => (unhide HP) i x y (by have := (List.getElem?_eq_some_iff.1 hx).1; omega) hx hy)]
        rfl
  · have hzz : ((l.length : Int) != (m.length : Int)) = true := by rw [bne_iff_ne]; omega
    have HL := hide hlen
    clear hlen hl
    go_enter Try.func122, Try.ntmps122
    go_wp2
    go_ret
    refine ⟨?_, Below.refl _ _⟩
    have : attrsEq l m = false := by
      cases h : attrsEq l m with
      | false => rfl
      | true => exact absurd (attrsEq_len h) (unhide HL)
    rw [this]; rfl

set_option maxHeartbeats 4000000 in
set_option maxRecDepth 10000 in
theorem alikeS_any {w : World} (a b : Option Addr) (ca cb : Nat) (l m : List AttrM) (ha : AttrsIn w a l) (hb : AttrsIn w b m) (hl : l.length ≤ 1024) (v0 v1 v6 v7 v8 v9 v10 v11 u0 u1 u6 u7 u8 u9 u10 u11 : Int) (v2 v4 v5 u2 u4 u5 : ByteArray) :
    Calls Try.prog 85 #[.agg #[.int .i64 v0, .int .i64 v1, .string v2, .slice a l.length ca, .string v4, .string v5, .int .i64 v6, .int .i64 v7, .int .i64 v8, .int .i64 v9, .int .i64 v10, .int .i64 v11],
      .agg #[.int .i64 u0, .int .i64 u1, .string u2, .slice b m.length cb, .string u4, .string u5, .int .i64 u6, .int .i64 u7, .int .i64 u8, .int .i64 u9, .int .i64 u10, .int .i64 u11]] w fun e w' => e = .returned (.bool (v0 == u0 && v1 == u1 && v2 == u2 && v4 == u4 && v5 == u5 && attrsEq l m)) ∧ Below w.heap.size w w' := by
  have HEQ : Hid (∀ W, Below w.heap.size w W → Calls Try.prog 122 #[.slice a l.length ca, .slice b m.length cb] W fun e w' => e = .returned (.bool (attrsEq l m)) ∧ Below W.heap.size W w') := hide (fun W hW => equal_any a b ca cb l m (ha.below hW) (hb.below hW) hl)
  clear ha hb hl
  rw [beq_toListBytes v2 u2, beq_toListBytes v4 u4, beq_toListBytes v5 u5]
  cases h0 : (v0 == u0) with
  | false =>
    go_enter Try.func85, Try.ntmps85
    go_wp2
    go_ret
    exact ⟨by simp, ((Below.refl _ _).alloc (Nat.le_refl _) _).alloc (by simp) _⟩
  | true =>
    cases h1 : (v1 == u1) with
    | false =>
      go_enter Try.func85, Try.ntmps85
      go_wp2
      go_ret
      exact ⟨by simp, ((Below.refl _ _).alloc (Nat.le_refl _) _).alloc (by simp) _⟩
    | true =>
      cases h2 : (v2.toList == u2.toList) with
      | false =>
        go_enter Try.func85, Try.ntmps85
        go_wp2
        go_ret
        exact ⟨by simp, ((Below.refl _ _).alloc (Nat.le_refl _) _).alloc (by simp) _⟩
      | true =>
        cases h4 : (v4.toList == u4.toList) with
        | false =>
          go_enter Try.func85, Try.ntmps85
          go_wp2
          go_ret
          exact ⟨by simp, ((Below.refl _ _).alloc (Nat.le_refl _) _).alloc (by simp) _⟩
        | true =>
          cases h5 : (v5.toList == u5.toList) with
          | false =>
            go_enter Try.func85, Try.ntmps85
            go_wp2
            go_ret
            exact ⟨by simp, ((Below.refl _ _).alloc (Nat.le_refl _) _).alloc (by simp) _⟩
          | true =>
            generalize attrsEq l m = q at HEQ
            have HB2 : Hid (∀ ob ob', Below w.heap.size w ((w.alloc ob).alloc ob')) := hide (fun ob ob' => ((Below.refl _ _).alloc (Nat.le_refl _) _).alloc (by simp) _)
            go_enter Try.func85, Try.ntmps85
            go_wp2_with (go_at_call 122; refine ((unhide HEQ) _ ((unhide HB2) _ _)).mono ?_; rintro e w3 ⟨rfl, hb3⟩; have HB3 := hide hb3; clear hb3)
            go_ret
            exact ⟨by simp, ((unhide HB2) _ _).trans ((unhide HB3).mono ((unhide HB2) _ _).size)⟩
end Go.Proofs.Ytlbkoafeedlfaaa
