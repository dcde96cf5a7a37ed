/-
  Two small lemmas: draws keep what lies; a box of twelve cells. Package show's alike, and slices.Equal of attributes. A stack of package show in memory; pairs pushed and popped.
-/
import Derived.Test.YtlbkoafeedlfaaaSBaq
import Derived.Deep.LoopGhost
import Derived.Deep.QuietTactic
import Derived.BigQuiet
import Derived.Test.YtlbkoafeedlfaaaSBbb
import Derived.Test.YtlbkoafeedlfaaaSBac
import Derived.Deep.AppendLies
import Derived.Deep.RegionLaw
namespace Go.Proofs.Ytlbkoafeedlfaaa
open Go.RowKit

theorem below_drewN' {B : Nat} {a w : World} (h : Below B a w) (n : Nat) : Below B a (w.drewN n) := ⟨h.os, h.tape, h.output, h.size, h.block⟩

theorem box12 {w5 w6 : World} {v0 v1 v2 v3 v4 v5 v6 v7 v8 v9 v10 v11 : Value} {t : TypeId} (hb : Below (w5.alloc (.cells #[v0, v1, v2, v3, v4, v5, v6, v7, v8, v9, v10, v11] t)).heap.size (w5.alloc (.cells #[v0, v1, v2, v3, v4, v5, v6, v7, v8, v9, v10, v11] t)) w6) :
    w6.cell? ⟨w5.heap.size, 0, none⟩ = some v0 ∧ w6.cell? ⟨w5.heap.size, 1, none⟩ = some v1 ∧ w6.cell? ⟨w5.heap.size, 2, none⟩ = some v2 ∧ w6.cell? ⟨w5.heap.size, 3, none⟩ = some v3 ∧ w6.cell? ⟨w5.heap.size, 4, none⟩ = some v4 ∧ w6.cell? ⟨w5.heap.size, 5, none⟩ = some v5 ∧ w6.cell? ⟨w5.heap.size, 6, none⟩ = some v6 ∧ w6.cell? ⟨w5.heap.size, 7, none⟩ = some v7 ∧ w6.cell? ⟨w5.heap.size, 8, none⟩ = some v8 ∧
    w6.cell? ⟨w5.heap.size, 9, none⟩ = some v9 ∧ w6.cell? ⟨w5.heap.size, 10, none⟩ = some v10 ∧ w6.cell? ⟨w5.heap.size, 11, none⟩ = some v11 ∧ w5.heap.size < w6.heap.size := by
  have hs := hb.size
  have hc : ∀ j, w6.cell? ⟨w5.heap.size, j, none⟩ = (w5.alloc (.cells #[v0, v1, v2, v3, v4, v5, v6, v7, v8, v9, v10, v11] t)).cell? ⟨w5.heap.size, j, none⟩ := fun j => hb.cell (p := ⟨w5.heap.size, j, none⟩) (by simp)
  refine ⟨?_, ?_, ?_, ?_, ?_, ?_, ?_, ?_, ?_, ?_, ?_, ?_, by simp at hs; omega⟩ <;> (rw [hc]; simp)
end Go.Proofs.Ytlbkoafeedlfaaa

namespace Go.Proofs.Ytlbkoafeedlfaaa
open Go.RowKit

theorem attrsEq_len : ∀ {l m : List AttrM}, attrsEq l m = true → l.length = m.length
  | [], [], _ => rfl
  | [], _ :: _, h => by cases h
  | _ :: _, [], h => by cases h
  | a :: l, b :: m, h => by
    rw [attrsEq, Bool.and_eq_true] at h
    simp [attrsEq_len h.2]
theorem attrsEq_no : ∀ {l m : List AttrM} {j : Nat} {x y : AttrM}, l[j]? = some x → m[j]? = some y → attrEq x y = false → attrsEq l m = false
  | [], _, _, _, _, h, _, _ => by simp at h
  | _ :: _, [], _, _, _, _, h, _ => by simp at h
  | a :: l, b :: m, 0, x, y, h1, h2, h3 => by
    simp at h1 h2; subst h1 h2; rw [attrsEq, h3]; rfl
  | a :: l, b :: m, j + 1, x, y, h1, h2, h3 => by
    rw [attrsEq, attrsEq_no (l := l) (m := m) (j := j) (by simpa using h1) (by simpa using h2) h3]; simp
theorem attrsEq_yes : ∀ {l m : List AttrM}, l.length = m.length → (∀ (j : Nat) x y, l[j]? = some x → m[j]? = some y → attrEq x y = true) → attrsEq l m = true
  | [], [], _, _ => rfl
  | [], _ :: _, h, _ => by simp at h
  | _ :: _, [], h, _ => by simp at h
  | a :: l, b :: m, h, h2 => by
    rw [attrsEq, h2 0 a b rfl rfl, attrsEq_yes (by simpa using h) (fun j x y hx hy => h2 (j + 1) x y (by simpa using hx) (by simpa using hy))]; rfl

theorem eqAttr (a b : AttrM) (w : World) : (Op.equalIn 10000 29 (.agg #[.int .i64 a.space, .string a.pre, .string a.name, .string a.val]) (.agg #[.int .i64 b.space, .string b.pre, .string b.name, .string b.val])).run Try.prog w = .ok (attrEq a b) w := by
  have u3 := Try.underlying3
  have a3 := Try.isAgg3
  have z3 := Try.sizeOf3
  have u9 := Try.underlying9
  have a9 := Try.isAgg9
  have z9 := Try.sizeOf9
  have hS : Try.prog.underlying 29 = some (.struct (Try.prog.fieldsOf 29)) := by kernel_rfl
  have hp : Try.prog.stoodInHeld 29 = false := by kernel_rfl
  rw [show (10000 : Nat) = 9999 + 1 from rfl, run_equalIn_agg w 9999 29 _ _ hS hp]
  simp only [Program.fieldsOf, Try.underlying29]
  go_simp
  unfold attrEq
  simp only [beq_toListBytes]
  by_cases h0 : a.space = b.space <;> by_cases h1 : a.pre.toList = b.pre.toList <;> by_cases h2 : a.name.toList = b.name.toList <;> by_cases h3 : a.val.toList = b.val.toList <;> simp [h0, h1, h2, h3]

theorem neqAttr (a b : AttrM) (w : World) : (binOp .neq 29 (.agg #[.int .i64 a.space, .string a.pre, .string a.name, .string a.val]) (.agg #[.int .i64 b.space, .string b.pre, .string b.name, .string b.val])).run Try.prog w = .ok (.bool (!attrEq a b)) w := by
  rw [run_neq_struct, eqAttr]; rfl
theorem guard29 : Try.prog.eqGuardType Try.prog.depth 29 = false := by kernel_rfl

set_option maxHeartbeats 4000000 in
set_option maxRecDepth 10000 in
theorem equal_any {w : World} (a b : Option Addr) (ca cb : Nat) (l m : List AttrM) (ha : AttrsIn w a l) (hb : AttrsIn w b m) (hl : l.length ≤ 1024) :
    Calls Try.prog 122 #[.slice a l.length ca, .slice b m.length cb] w fun e w' => e = .returned (.bool (attrsEq l m)) ∧ Below w.heap.size w w' := by
  have HA := hide ha
  have HB := hide hb
  clear ha hb
  by_cases hlen : l.length = m.length
  · have hzz : ((l.length : Int) != (m.length : Int)) = false := by simp [hlen]
    have hlz : (l.length : Int) ≤ 1024 := by omega
    have HL := hide hlen
    clear hlen hl
    go_enter Try.func122, Try.ntmps122
    go_wp2
    go_loopg [5, 13] l.length (fun k _ s wx => ∃ j : Nat, s = .int .i64 j ∧ j + k = l.length ∧ Below w.heap.size w wx ∧ ∀ (i : Nat) x y, i < j → l[i]? = some x → m[i]? = some y → attrEq x y = true)
    case atStart => exact ⟨0, rfl, by omega, Below.refl _ _, fun i x y h => by omega⟩
    case round =>
      obtain ⟨j, rfl, hjk, hb, hpre⟩ := hrel
      have HP := hide hpre
      clear hpre
      by_cases hj : j < l.length
      · obtain ⟨x, hx⟩ : ∃ x, l[j]? = some x := ⟨_, List.getElem?_eq_getElem hj⟩
        obtain ⟨y, hy⟩ : ∃ y, m[j]? = some y := ⟨_, List.getElem?_eq_getElem (by rw [← unhide HL]; exact hj)⟩
        have hjz : (j : Int) < (l.length : Int) := by omega
        have hjm : (j : Int) < (m.length : Int) := by rw [← unhide HL]; exact hjz
        obtain ⟨ba, oa, rfl, a0, a1, a2, a3⟩ := ((unhide HA).below hb).cells j _ hx
        obtain ⟨bb, ob, rfl, b0, b1, b2, b3⟩ := ((unhide HB).below hb).cells j _ hy
        have HBW := hide hb
        have HX := hide hx
        have HY := hide hy
        clear hx hb hy
        cases he : attrEq x y with
        | true =>
          have HE := hide he
          have hg := guard29
          have hq := fun W => neqAttr x y W
          rw [he] at hq
          clear he
          go_wp2
          go_quiet (fail)
          go_wp2
          go_roundg (gk - 1)
          case measure => omega
          case rel =>
            refine ⟨j + 1, by go_num, by omega, below_drewN' (unhide HBW) _, fun i x' y' hi hx' hy' => ?_⟩
            by_cases e : i = j
            · subst e; rw [unhide HX] at hx'; rw [unhide HY] at hy'; cases hx'; cases hy'; exact unhide HE
            · exact (unhide HP) i x' y' (by omega) hx' hy'
        | false =>
          have HE := hide he
          have hg := guard29
          have hq := fun W => neqAttr x y W
          rw [he] at hq
          clear he
          go_wp2
          go_quiet (fail)
          go_wp2
          go_ret
          refine ⟨?_, below_drewN' (unhide HBW) _⟩
          rw [attrsEq_no (unhide HX) (unhide HY) (unhide HE)]
          rfl
      · have hjz : ¬ (j : Int) < (l.length : Int) := by omega
        go_wp2
        go_ret
        refine ⟨?_, hb⟩
        rw [attrsEq_yes (unhide HL) (fun i x y hx hy => (unhide HP) i x y (by have := (List.getElem?_eq_some_iff.1 hx).1; omega) hx hy)]
        rfl
  · have hzz : ((l.length : Int) != (m.length : Int)) = true := by rw [bne_iff_ne]; omega
    have HL := hide hlen
    clear hlen hl
    go_enter Try.func122, Try.ntmps122
    go_wp2
    go_ret
    refine ⟨?_, Below.refl _ _⟩
    have : attrsEq l m = false := by
      cases h : attrsEq l m with
      | false => rfl
      | true => exact absurd (attrsEq_len h) (unhide HL)
    rw [this]; rfl

set_option maxHeartbeats 4000000 in
set_option maxRecDepth 10000 in
theorem alikeS_any {w : World} (a b : Option Addr) (ca cb : Nat) (l m : List AttrM) (ha : AttrsIn w a l) (hb : AttrsIn w b m) (hl : l.length ≤ 1024) (v0 v1 v6 v7 v8 v9 v10 v11 u0 u1 u6 u7 u8 u9 u10 u11 : Int) (v2 v4 v5 u2 u4 u5 : ByteArray) :
    Calls Try.prog 85 #[.agg #[.int .i64 v0, .int .i64 v1, .string v2, .slice a l.length ca, .string v4, .string v5, .int .i64 v6, .int .i64 v7, .int .i64 v8, .int .i64 v9, .int .i64 v10, .int .i64 v11],
      .agg #[.int .i64 u0, .int .i64 u1, .string u2, .slice b m.length cb, .string u4, .string u5, .int .i64 u6, .int .i64 u7, .int .i64 u8, .int .i64 u9, .int .i64 u10, .int .i64 u11]] w fun e w' => e = .returned (.bool (v0 == u0 && v1 == u1 && v2 == u2 && v4 == u4 && v5 == u5 && attrsEq l m)) ∧ Below w.heap.size w w' := by
  have HEQ : Hid (∀ W, Below w.heap.size w W → Calls Try.prog 122 #[.slice a l.length ca, .slice b m.length cb] W fun e w' => e = .returned (.bool (attrsEq l m)) ∧ Below W.heap.size W w') := hide (fun W hW => equal_any a b ca cb l m (ha.below hW) (hb.below hW) hl)
  clear ha hb hl
  rw [beq_toListBytes v2 u2, beq_toListBytes v4 u4, beq_toListBytes v5 u5]
  cases h0 : (v0 == u0) with
  | false =>
    go_enter Try.func85, Try.ntmps85
    go_wp2
    go_ret
    exact ⟨by simp, ((Below.refl _ _).alloc (Nat.le_refl _) _).alloc (by simp) _⟩
  | true =>
    cases h1 : (v1 == u1) with
    | false =>
      go_enter Try.func85, Try.ntmps85
      go_wp2
      go_ret
      exact ⟨by simp, ((Below.refl _ _).alloc (Nat.le_refl _) _).alloc (by simp) _⟩
    | true =>
      cases h2 : (v2.toList == u2.toList) with
      | false =>
        go_enter Try.func85, Try.ntmps85
        go_wp2
        go_ret
        exact ⟨by simp, ((Below.refl _ _).alloc (Nat.le_refl _) _).alloc (by simp) _⟩
      | true =>
        cases h4 : (v4.toList == u4.toList) with
        | false =>
          go_enter Try.func85, Try.ntmps85
          go_wp2
          go_ret
          exact ⟨by simp, ((Below.refl _ _).alloc (Nat.le_refl _) _).alloc (by simp) _⟩
        | true =>
          cases h5 : (v5.toList == u5.toList) with
          | false =>
            go_enter Try.func85, Try.ntmps85
            go_wp2
            go_ret
            exact ⟨by simp, ((Below.refl _ _).alloc (Nat.le_refl _) _).alloc (by simp) _⟩
          | true =>
            generalize attrsEq l m = q at HEQ
            have HB2 : Hid (∀ ob ob', Below w.heap.size w ((w.alloc ob).alloc ob')) := hide (fun ob ob' => ((Below.refl _ _).alloc (Nat.le_refl _) _).alloc (by simp) _)
            go_enter Try.func85, Try.ntmps85
            go_wp2_with (go_at_call 122; refine ((unhide HEQ) _ ((unhide HB2) _ _)).mono ?_; rintro e w3 ⟨rfl, hb3⟩; have HB3 := hide hb3; clear hb3)
            go_ret
            exact ⟨by simp, ((unhide HB2) _ _).trans ((unhide HB3).mono ((unhide HB2) _ _).size)⟩
end Go.Proofs.Ytlbkoafeedlfaaa

namespace Go.Proofs.Ytlbkoafeedlfaaa
open Go.RowKit

/-- A stack of type T at block b: n elements of type E, sz cells each. -/
structure StAt (w : World) (base b : Nat) (T E : TypeId) (sz : Nat) (v : Value) (n : Nat) (xs : List Value) : Prop where
  box : w.heap[b]? = some (.cells #[v] T (0, 0))
  row : w.ownsRow base E sz v n xs
  lo : base ≤ b
  ne : T ≠ E

def StS (w : World) (base b : Nat) (T E : TypeId) (sz n : Nat) (xs : List Value) (F : Nat → Prop) : Prop := ∃ v, StAt w base b T E sz v n xs ∧ ∀ k, F k ↔ k = b ∨ v.ownBlock = some k

def UpdSt (F : Nat → Prop) (w w' : World) (base b : Nat) (T E : TypeId) (sz n : Nat) (xs : List Value) : Prop := ∃ F', StS w' base b T E sz n xs F' ∧ Mod F w w' ∧ ∀ k, F' k → F k ∨ w.heap.size ≤ k

section
variable {w w' : World} {base b : Nat} {T E : TypeId} {sz n : Nat} {xs : List Value} {v : Value} {F G : Nat → Prop}

theorem StAt.far (h : StAt w base b T E sz v n xs) : v.ownBlock ≠ some b := by
  intro e
  obtain ⟨cur, hc⟩ := ownsRow_block h.row e
  have := h.box
  rw [hc] at this
  simp at this
  exact h.ne this.2.symm
theorem StAt.cell (h : StAt w base b T E sz v n xs) : w.cell? ⟨b, 0, none⟩ = some v := cell_of_one h.box
theorem StAt.free (h : StAt w base b T E sz v n xs) : w.frozen? ⟨b, 0, none⟩ = false := free_of_one h.box
theorem StAt.lt (h : StAt w base b T E sz v n xs) : b < w.heap.size := lt_of_block h.box
theorem StAt.mod (h : StAt w base b T E sz v n xs) (hm : Mod G w w') (hG : ∀ k, (k = b ∨ v.ownBlock = some k) → ¬ G k) : StAt w' base b T E sz v n xs := by
  refine ⟨by rw [hm.block b h.lt (hG b (.inl rfl))]; exact h.box, ?_, h.lo, h.ne⟩
  refine ⟨h.row.1, ?_⟩
  rcases h.row.2 with hn | ⟨g', cap', cur, rfl, hbb, hgg, rest⟩
  · exact .inl hn
  · exact .inr ⟨g', cap', cur, rfl, hbb, by rw [hm.block g' (lt_of_block hgg) (hG g' (.inr rfl))]; exact hgg, rest⟩
theorem StS.mod (h : StS w base b T E sz n xs F) (hm : Mod G w w') (hG : ∀ k, F k → ¬ G k) : StS w' base b T E sz n xs F := by
  obtain ⟨v, h, hF⟩ := h
  exact ⟨v, h.mod hm (fun k hk => hG k ((hF k).2 hk)), hF⟩
theorem StS.below (h : StS w base b T E sz n xs F) (hb : Below w.heap.size w w') : StS w' base b T E sz n xs F := h.mod (Mod.of_below (F := fun _ => False) hb) (fun _ _ e => e)
theorem StS.lt (h : StS w base b T E sz n xs F) {k : Nat} (hk : F k) : base ≤ k ∧ k < w.heap.size := by
  obtain ⟨v, h, hF⟩ := h
  rcases (hF k).1 hk with rfl | e
  · exact ⟨h.lo, h.lt⟩
  · exact h.row.lt k e
theorem StAt.cut (h : StAt w base b T E sz v n xs) (m : Nat) (hm : m ≤ n) : ∃ g cap, v = .slice g n cap ∧ w.ownsRow base E sz (.slice g m cap) m (xs.take (m * sz)) := by
  rcases h.row.2 with ⟨rfl, rfl⟩ | ⟨g, cap, cur, rfl, hbb, hgg, hc, hcm, hsz, ht⟩
  · obtain rfl : m = 0 := by omega
    exact ⟨none, 0, rfl, by simp, .inl ⟨rfl, rfl⟩⟩
  · refine ⟨some ⟨g, 0, none⟩, cap, rfl, ?_, .inr ⟨g, cap, cur, rfl, hbb, hgg, by omega, hcm, hsz, ?_⟩⟩
    · have := h.row.1
      rw [List.length_take, this]
      exact Nat.min_eq_left (Nat.mul_le_mul_right _ hm)
    · rw [← ht, List.take_take, Nat.min_eq_left (Nat.mul_le_mul_right _ hm)]
theorem StAt.close (h : StAt w base b T E sz v n xs) {w1 : World} {H g cap m : Nat} {ys : List Value} (hg : w.grownBy w1 v.ownBlock) (hown : w1.ownsRow base E sz (.slice (some ⟨g, 0, none⟩) m cap) m ys) (hat : v.ownBlock = some g ∨ g = H) (hH : w.heap.size ≤ H) (hF : ∀ k, F k ↔ k = b ∨ v.ownBlock = some k) :
    UpdSt F w (w1.setCell ⟨b, 0, none⟩ (.slice (some ⟨g, 0, none⟩) m cap)) base b T E sz m ys := by
  have hlt1 : b < w1.heap.size := Nat.lt_of_lt_of_le h.lt hg.size
  have hb1 : w1.heap[b]? = some (.cells #[v] T (0, 0)) := by rw [hg.block b h.lt h.far.symm]; exact h.box
  have hgb : g ≠ b := by
    rcases hat with e | e
    · intro e2; subst e2; exact h.far e
    · have := h.lt; omega
  refine ⟨fun k => k = b ∨ g = k, ⟨.slice (some ⟨g, 0, none⟩) m cap, ⟨?_, ownsRow_setCell_other hown (by simpa [Value.ownBlock] using hgb) _, h.lo, h.ne⟩, fun k => by simp [Value.ownBlock]⟩, ?_, ?_⟩
  · have := heap_setCell_same w1 b 0 #[v] T (.slice (some ⟨g, 0, none⟩) m cap) hb1
    simpa using this
  · exact (Mod.grown hg (fun k hk => (hF k).2 (.inr hk))).trans (Mod.setCell _ _ _ ((hF b).2 (.inl rfl)))
  · rintro k (rfl | rfl)
    · exact .inl ((hF k).2 (.inl rfl))
    · rcases hat with e | e
      · exact .inl ((hF _).2 (.inr e))
      · exact .inr (by omega)
end

theorem Try.info128 : (Try.prog.info? 128).map (fun i => (i.zero, i.size, i.bytes)) = some (some (.agg #[.int .i64 0, .int .i64 0]), 2, 16) := by kernel_rfl

theorem two_news (w : World) (t : TypeId) (x y : Value) : ∀ j u, [x, y][j]? = some u → (w.alloc (.cells #[x, y] t)).cell? ((⟨w.heap.size, 0, none⟩ : Addr).add j) = some u :=
  World.news_of_block (heap_alloc_new w (.cells #[x, y] t))

set_option maxHeartbeats 1000000 in
theorem push_pair {w : World} {base b n : Nat} {xs : List Value} {F : Nat → Prop} (h : StS w base b 125 128 2 n xs F) (x y : Int) (hn : n ≤ 100000) :
    Calls Try.prog 82 #[.pointer (some ⟨b, 0, none⟩), .agg #[.int .i64 x, .int .i64 y]] w fun e w' => e = .returned (.tuple #[]) ∧ UpdSt F w w' base b 125 128 2 (n + 1) (xs ++ [.int .i64 x, .int .i64 y]) := by
  obtain ⟨v, h, hF⟩ := h
  obtain ⟨ga, cap, rfl, _⟩ := h.cut n (Nat.le_refl _)
  obtain ⟨i0, hi0, hz0, hz1, hz2⟩ := info_parts Try.info128
  have hc := h.cell
  have hfz := h.free
  have hlt := h.lt
  have hfar := h.far
  have HH := hide h
  have HFF := hide hF
  have HLO := hide h.lo
  have HR := hide h.row
  clear h hF
  go_enter Try.func82, Try.ntmps82
  go_wp2_with fail
  go_region_law ((refine step_append_lies _ (by rfl) _ _ _ (by rfl) base 128 i0 _ 2 16 Try.underlying123 hi0 hz0 hz1 hz2 rfl (by omega) (.slice ga n cap) n xs (by rfl) (by exact (((unhide HR).alloc _).drew).alloc _) ⟨w.heap.size + 1, 0, none⟩ 1 1 [.int .i64 x, .int .i64 y] (by rfl) (by rfl) (by have := two_news (w.alloc (.cells #[.int .i64 x, .int .i64 y] 128)) 128 (.int .i64 x) (.int .i64 y); rw [World.size_alloc] at this; exact this) (by simp [Value.oneCell']) (by omega) (by unfold maxLen; omega) (by omega) (by exact Nat.le_trans (unhide HLO) (by simp; omega)) (w.heap.size + 2) (by simp) ?_; intro g' cap' w1 hown1 hgrow hat hl1; have hc1 : w1.cell? ⟨b, 0, none⟩ = some (.slice ga n cap) := ((hgrow.cell_far ⟨b, 0, none⟩ (by simp; omega) (by intro e; first | exact hfar e | exact hfar e.symm)).trans (((Below.refl w.heap.size w).alloc (Nat.le_refl _) _).alloc (by simp) _ |>.drew.cell hlt |>.trans hc)); have hF1 : w1.frozen? ⟨b, 0, none⟩ = false := ((hgrow.frozen_far ⟨b, 0, none⟩ (by simp; omega) (by intro e; first | exact hfar e | exact hfar e.symm)).trans (((Below.refl w.heap.size w).alloc (Nat.le_refl _) _).alloc (by simp) _ |>.drew.frozen hlt |>.trans hfz))))
  all_goals
    have hB : Below w.heap.size w (((w.alloc (.cells #[.int .i64 x, .int .i64 y] 128)).alloc (.cells #[.int .i64 x, .int .i64 y] 128)).drew) := (((Below.refl w.heap.size w).alloc (Nat.le_refl _) _).alloc (by simp) _).drew
    have hh := (unhide HH).mod (Mod.of_below (F := fun _ => False) hB) (fun _ _ e => e)
    have R := hh.close (H := w.heap.size + 2) hgrow hown1 hat (by simp) (unhide HFF)
    obtain ⟨F', h1, h2, h3⟩ := R
    have R2 : UpdSt F w (w1.setCell ⟨b, 0, none⟩ (.slice (some ⟨g', 0, none⟩) (n + 1) cap')) base b 125 128 2 (n + 1) (xs ++ [.int .i64 x, .int .i64 y]) := ⟨F', h1, (Mod.of_below hB).trans h2, fun k hk => (h3 k hk).imp id (fun h => Nat.le_trans hB.size h)⟩
    go_end0
    exact ⟨rfl, R2⟩

theorem empty_pair {w : World} {base b n : Nat} {xs : List Value} {F : Nat → Prop} (h : StS w base b 125 128 2 n xs F) :
    Calls Try.prog 83 #[.pointer (some ⟨b, 0, none⟩)] w fun e w' => e = .returned (.bool (decide (n = 0))) ∧ w = w' := by
  obtain ⟨v, h, hF⟩ := h
  obtain ⟨ga, cap, rfl, _⟩ := h.cut n (Nat.le_refl _)
  have hc := h.cell
  clear h hF
  go_enter Try.func83, Try.ntmps83
  go_wp2
  go_ret
  have e : (((n : Nat) : Int) == 0) = decide (n = 0) := by rw [Bool.eq_iff_iff]; simp
  exact ⟨by simp [e], rfl⟩

theorem UpdSt.then {F : Nat → Prop} {w w1 w2 : World} {base b : Nat} {T E : TypeId} {sz n : Nat} {xs : List Value} (h : UpdSt F w w1 base b T E sz n xs) (hb : Below w1.heap.size w1 w2) : UpdSt F w w2 base b T E sz n xs := by
  obtain ⟨F', h1, h2, h3⟩ := h
  exact ⟨F', h1.below hb, h2.trans (Mod.of_below hb), h3⟩

/-- A stack whose box was turned to a shorter slice of the same row. -/
theorem StAt.short {w w1 : World} {base b : Nat} {T E : TypeId} {sz n : Nat} {xs : List Value} {g : Option Addr} {cap : Nat} {F : Nat → Prop} (h : StAt w base b T E sz (.slice g n cap) n xs) (hF : ∀ k, F k ↔ k = b ∨ (Value.slice g n cap).ownBlock = some k) (m : Nat) (hm : m ≤ n) (hB : Below w.heap.size w w1) :
    UpdSt F w (w1.setCell ⟨b, 0, none⟩ (.slice g m cap)) base b T E sz m (xs.take (m * sz)) := by
  have h1 := h.mod (Mod.of_below (F := fun _ => False) hB) (fun _ _ e => e)
  obtain ⟨g', cap', e, hr⟩ := h1.cut m hm
  cases e
  have ho : (Value.slice g m cap).ownBlock = (Value.slice g n cap).ownBlock := by cases g <;> rfl
  refine ⟨F, ⟨.slice g m cap, ⟨?_, ownsRow_setCell_other hr (by rw [ho]; exact h.far) _, h.lo, h.ne⟩, fun k => by rw [ho]; exact hF k⟩, (Mod.of_below hB).trans (Mod.setCell _ _ _ ((hF b).2 (.inl rfl))), fun k hk => .inl hk⟩
  have := heap_setCell_same w1 b 0 #[.slice g n cap] T (.slice g m cap) h1.box
  simpa using this

theorem StAt.at {w : World} {base b : Nat} {T E : TypeId} {sz n : Nat} {xs : List Value} {v : Value} (h : StAt w base b T E sz v n xs) (hn : 0 < n) : ∃ g cap, v = .slice (some ⟨g, 0, none⟩) n cap ∧ n ≤ cap ∧ g < w.heap.size ∧ ∀ j, j < n * sz → w.cell? ⟨g, j, none⟩ = xs[j]? := by
  rcases h.row.2 with ⟨rfl, rfl⟩ | ⟨g, cap, cur, rfl, hbb, hgg, hc, _⟩
  · omega
  · exact ⟨g, cap, rfl, hc, lt_of_block hgg, fun j hj => h.row.cellAt j hj⟩

set_option maxHeartbeats 1000000 in
theorem pop_pair {w : World} {base b n : Nat} {xs : List Value} {F : Nat → Prop} {x y : Int} (h : StS w base b 125 128 2 (n + 1) (xs ++ [.int .i64 x, .int .i64 y]) F) (hn : n ≤ 100000) :
    Calls Try.prog 84 #[.pointer (some ⟨b, 0, none⟩)] w fun e w' => e = .returned (.agg #[.int .i64 x, .int .i64 y]) ∧ UpdSt F w w' base b 125 128 2 n xs := by
  obtain ⟨v, h, hF⟩ := h
  obtain ⟨g, cap, rfl, hcap, hg, hj⟩ := h.at (by omega)
  have hlx : xs.length = n * 2 := by have := h.row.1; simp at this; omega
  have c0 : w.cell? ⟨g, n * 2, none⟩ = some (.int .i64 x) := by rw [hj _ (by omega), List.getElem?_append_right (by omega), hlx]; simp
  have c1 : w.cell? ⟨g, n * 2 + 1, none⟩ = some (.int .i64 y) := by rw [hj _ (by omega), List.getElem?_append_right (by omega), hlx]; simp
  have hc := h.cell
  have hfz := h.free
  have hlt := h.lt
  have HX := hide hlx
  have HH := hide h
  have HFF := hide hF
  clear h hF hj hlx
  go_enter Try.func84, Try.ntmps84
  go_wp2
  refine bodyPost_ret (v := .agg #[.int .i64 x, .int .i64 y]) (by simp [results, Try.results84, go_sem]) rfl ⟨rfl, ?_⟩
  have R := (unhide HH).short (unhide HFF) n (by omega) (Below.refl _ w)
  rw [List.take_left' (unhide HX)] at R
  exact (R.then ((Below.refl _ _).alloc (Nat.le_refl _) _)).then ((Below.refl _ _).alloc (Nat.le_refl _) _)
end Go.Proofs.Ytlbkoafeedlfaaa
