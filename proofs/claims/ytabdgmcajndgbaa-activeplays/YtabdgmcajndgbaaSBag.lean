/-
  slices.Compact at attributes.
-/
import Derived.Test.YtabdgmcajndgbaaSBaf
import Derived.BigQuiet
import Derived.Deep.QuietTactic
import Derived.Deep.LoopGhost
import Derived.Lib.SliceRun
namespace Go.Proofs.Ytabdgmcajndgbaa
open Go.RowKit Go.Sort

theorem eqAttr (a b : AttrM) (w : World) : (Op.equalIn 10000 86 (.agg #[.int .i64 a.space, .string a.pre, .string a.name, .string a.val]) (.agg #[.int .i64 b.space, .string b.pre, .string b.name, .string b.val])).run Try.prog w = .ok (eqA a b) w := by
  have u3 := Try.underlying3
  have a3 := Try.isAgg3
  have z3 := Try.sizeOf3
  have u9 := Try.underlying9
  have a9 := Try.isAgg9
  have z9 := Try.sizeOf9
  have hS : Try.prog.underlying 86 = some (.struct (Try.prog.fieldsOf 86)) := by kernel_rfl
  have hp : Try.prog.stoodInHeld 86 = false := by kernel_rfl
  have dk : ∀ x y : ByteArray, decide (x = y) = decide (x.toList = y.toList) := fun x y => decide_eq_decide.2 ⟨fun e => by rw [e], bytes_ext⟩
  rw [show (10000 : Nat) = 9999 + 1 from rfl, run_equalIn_agg w 9999 86 _ _ hS hp]
  simp only [Program.fieldsOf, Try.underlying86]
  go_simp
  unfold eqA
  simp only [dk]
  by_cases h0 : a.space = b.space <;> by_cases h1 : a.pre.toList = b.pre.toList <;> by_cases h2 : a.name.toList = b.name.toList <;> by_cases h3 : a.val.toList = b.val.toList <;> simp [h0, h1, h2, h3]

theorem neqAttr (a b : AttrM) (w : World) : (binOp .neq 86 (.agg #[.int .i64 a.space, .string a.pre, .string a.name, .string a.val]) (.agg #[.int .i64 b.space, .string b.pre, .string b.name, .string b.val])).run Try.prog w = .ok (.bool (!eqA a b)) w := by
  rw [run_neq_struct, eqAttr]; rfl
theorem eqlAttr (a b : AttrM) (w : World) : (binOp .eql 86 (.agg #[.int .i64 a.space, .string a.pre, .string a.name, .string a.val]) (.agg #[.int .i64 b.space, .string b.pre, .string b.name, .string b.val])).run Try.prog w = .ok (.bool (eqA a b)) w := by
  rw [run_eql_struct, eqAttr]; rfl
theorem guardA : Try.prog.eqGuardType Try.prog.depth 86 = false := by kernel_rfl

theorem below_dn {w w' : World} (h : Below w.heap.size w w') (n : Nat) : Below w.heap.size w (w'.drewN n) := ⟨h.os, h.tape, h.output, h.size, h.block⟩
theorem compA_small {l : List AttrM} (h : l.length < 2) : compA l = l := by
  match l, h with
  | [], _ => rfl
  | [x], _ => rfl

/-- As long as no two neighbours are one. -/
theorem compA_step {l : List AttrM} {k : Nat} {x p : AttrM} (hx : l[k + 1]? = some x) (hp : l[k]? = some p) : compA (l.take (k + 2)) = compA (l.take (k + 1)) ++ (if eqA x p = true then [] else [x]) := by
  have hlt := (List.getElem?_eq_some_iff.1 hx).1
  have e : l.take (k + 2) = l.take (k + 1) ++ [x] := by
    rw [List.take_succ_eq_append_getElem hlt]
    have := (List.getElem?_eq_some_iff.1 hx).2
    rw [this]
  rw [e, compA_snoc (k := k) (p := p) (by simp; omega) (by rw [List.getElem?_take, if_pos (by omega)]; exact hp)]

/-- What lies behind c attributes of a row is made zero. -/
theorem clear_rest {w : World} {g : Nat} {L : List AttrM} (h : RowT w g L) (c : Nat) (hc : c < L.length) (m cp ty : Nat) (hm : m = L.length - c) :
    ∃ w', (Builtin.clear_ #[35] ty #[.slice (some ⟨g, c * 4, none⟩) m cp]).run Try.prog w = .ok (.tuple #[]) w' ∧ (∃ cur, w'.heap[g]? = some (.cells cur 86 (0, 0))) ∧ AttrsIn w' (some ⟨g, 0, none⟩) (L.take c) ∧ Mod (fun k => k = g) w w' := by
  obtain ⟨m, rfl⟩ : ∃ m', m = m' + 1 := ⟨m - 1, by omega⟩
  obtain ⟨zs, hzs, hzl, hz1⟩ : ∃ zs : List Value, (Builtin.zeroCells #[.int .i64 0, .string ⟨#[]⟩, .string ⟨#[]⟩, .string ⟨#[]⟩] (m + 1)).toList = zs ∧ zs.length = (m + 1) * 4 ∧ ∀ v ∈ zs, v.oneCell' = true := by
    refine ⟨_, rfl, ?_, ?_⟩
    · have := size_zeroCells #[Value.int .i64 0, .string ⟨#[]⟩, .string ⟨#[]⟩, .string ⟨#[]⟩] (m + 1)
      simp at this
      rw [Array.length_toList, this]
    · intro v hv
      rw [Array.mem_toList_iff] at hv
      simp only [Builtin.zeroCells, Array.mem_map, Array.mem_range] at hv
      obtain ⟨i, _, rfl⟩ := hv
      have h4 : i % 4 < 4 := Nat.mod_lt _ (by omega)
      show ((#[Value.int .i64 0, .string ⟨#[]⟩, .string ⟨#[]⟩, .string ⟨#[]⟩] : Array Value)[i % 4]!).oneCell' = true
      generalize i % 4 = q at h4
      match q, h4 with
      | 0, _ => rfl
      | 1, _ => rfl
      | 2, _ => rfl
      | 3, _ => rfl
  have hst := run_storeCells_at Try.prog g (c * 4) 86 zs 0 (attrRow L).toArray w h (by simp [attrRow_len, hzl]; omega) hz1
  refine ⟨w.setRow g ((attrRow L).toArray.toList.take (c * 4 + 0) ++ zs ++ (attrRow L).toArray.toList.drop (c * 4 + 0 + zs.length)).toArray, ?_, ⟨_, setRow_heap w g _ _ 86 _ h⟩, ⟨fun i x hi => ?_⟩, ⟨rfl, rfl, rfl, by simp, fun k _ hk => setRow_other w g k _ hk⟩⟩
  · simp [Builtin.clear_, run_underlying Try.underlying35, Try.zeroValue86, hzs, Value.cells]
    simp at hst
    rw [hst]; simp
  · rw [List.getElem?_take] at hi
    split at hi
    · rename_i hic
      have key : ∀ j, j < 4 → (w.setRow g ((attrRow L).toArray.toList.take (c * 4 + 0) ++ zs ++ (attrRow L).toArray.toList.drop (c * 4 + 0 + zs.length)).toArray).cell? ⟨g, 0 + i * 4 + j, none⟩ = x.cells[j]? := by
        intro j hj
        rw [cell_of_row _ g _ _ _ _ (setRow_heap w g _ _ 86 _ h), List.getElem?_toArray, List.append_assoc, List.getElem?_append_left (by simp [attrRow_len]; omega), List.getElem?_take, if_pos (by omega), Nat.zero_add]
        show (attrRow L)[i * 4 + j]? = _
        rw [attrRow_get L i j hj, hi]; rfl
      exact ⟨g, 0, rfl, key 0 (by omega), key 1 (by omega), key 2 (by omega), key 3 (by omega)⟩
    · cases hi

theorem RowT.set1 {w : World} {g : Nat} {L : List AttrM} (h : RowT w g L) {c : Nat} {o y : AttrM} (hc : L[c]? = some o) (j : Nat) (hj : j < 4) (v : Value) (hy : y.cells = o.cells.set j v) :
    RowT (w.setCell ⟨g, c * 4 + j, none⟩ v) g (L.set c y) := by
  have h1 := heap_setCell_same w g (c * 4 + j) _ _ v h
  rw [List.setIfInBounds_toArray, attrRow, flat_set AttrM.cells 4 attr_len L c j hj o y v hc hy] at h1
  exact h1
theorem RowT.set {w : World} {g : Nat} {L : List AttrM} (h : RowT w g L) {c : Nat} (hc : c < L.length) (x : AttrM) :
    RowT ((((w.setCell ⟨g, c * 4, none⟩ (.int .i64 x.space)).setCell ⟨g, c * 4 + 1, none⟩ (.string x.pre)).setCell ⟨g, c * 4 + 2, none⟩ (.string x.name)).setCell ⟨g, c * 4 + 3, none⟩ (.string x.val)) g (L.set c x) := by
  obtain ⟨o, ho⟩ : ∃ o, L[c]? = some o := ⟨_, List.getElem?_eq_getElem hc⟩
  have h1 := h.set1 ho 0 (by omega) (.int .i64 x.space) (y := ⟨x.space, o.pre, o.name, o.val⟩) rfl
  have h2 := h1.set1 (c := c) (List.getElem?_set_self hc) 1 (by omega) (.string x.pre) (y := ⟨x.space, x.pre, o.name, o.val⟩) rfl
  rw [List.set_set] at h2
  have h3 := h2.set1 (c := c) (List.getElem?_set_self hc) 2 (by omega) (.string x.name) (y := ⟨x.space, x.pre, x.name, o.val⟩) rfl
  rw [List.set_set] at h3
  have h4 := h3.set1 (c := c) (List.getElem?_set_self hc) 3 (by omega) (.string x.val) (y := x) rfl
  rw [List.set_set] at h4
  exact h4

theorem mod_dn {F : Nat → Prop} {w w' : World} (h : Mod F w w') (n : Nat) : Mod F w (w'.drewN n) := ⟨h.os, h.tape, h.output, h.size, h.block⟩
theorem mod_set4 {g : Nat} {w w' : World} (h : Mod (fun k => k = g) w w') (a b c d : Nat) (u v x y : Value) : Mod (fun k => k = g) w ((((w'.setCell ⟨g, a, none⟩ u).setCell ⟨g, b, none⟩ v).setCell ⟨g, c, none⟩ x).setCell ⟨g, d, none⟩ y) :=
  (((h.trans (Mod.setCell _ _ _ rfl)).trans (Mod.setCell _ _ _ rfl)).trans (Mod.setCell _ _ _ rfl)).trans (Mod.setCell _ _ _ rfl)

set_option maxHeartbeats 4000000 in
set_option maxRecDepth 10000 in
theorem compact_any {w : World} {g : Nat} {l : List AttrM} (h : RowT w g l) (hl : l.length ≤ 2513169434916) :
    Calls Try.prog 75 #[.slice (some ⟨g, 0, none⟩) l.length l.length] w fun e w' => e = .returned (.slice (some ⟨g, 0, none⟩) (compA l).length l.length) ∧ AttrsIn w' (some ⟨g, 0, none⟩) (compA l) ∧ (∃ cur, w'.heap[g]? = some (.cells cur 86 (0, 0))) ∧ Mod (fun k => k = g) w w' := by
  have HH := hide h
  by_cases h2 : l.length < 2
  · have h2z : (l.length : Int) < 2 := by omega
    have HE : Hid (compA l = l) := hide (compA_small h2)
    clear h h2
    go_enter Try.func75, Try.ntmps75
    go_wp2
    go_ret
    refine ⟨?_, ?_, ⟨_, unhide HH⟩, Mod.refl _ _⟩
    · rw [unhide HE]; rfl
    · rw [unhide HE]; exact (unhide HH).attrs
  · have h2z : ¬ (l.length : Int) < 2 := by omega
    have h2n : 2 ≤ l.length := by omega
    have hlz : (l.length : Int) ≤ 2513169434916 := by omega
    have H2 := hide h2n
    clear h h2 h2n hl
    go_enter Try.func75, Try.ntmps75
    go_wp2
    go_loopg [3] l.length (fun gk s wx => ∃ k : Nat, s = .int .i64 ((k : Int) + 1) ∧ k + gk = l.length ∧ Below w.heap.size w wx ∧ compA (l.take (k + 1)) = l.take (k + 1))
    case atStart => exact ⟨0, rfl, by have := unhide H2; omega, Below.refl _ _, by cases l <;> rfl⟩
    case round =>
      obtain ⟨k, rfl, hkk, hb, hpre⟩ := hrel
      have HP := hide hpre
      have HBW := hide hb
      clear hpre hb
      by_cases hk : k + 1 < l.length
      · obtain ⟨x, hx⟩ : ∃ x, l[k + 1]? = some x := ⟨_, List.getElem?_eq_getElem hk⟩
        obtain ⟨p, hp⟩ : ∃ p, l[k]? = some p := ⟨_, List.getElem?_eq_getElem (by omega)⟩
        obtain ⟨a0, a1, a2, a3⟩ := ((unhide HH).below (unhide HBW)).four hx
        obtain ⟨b0, b1, b2, b3⟩ := ((unhide HH).below (unhide HBW)).four hp
        have HS := hide (compA_step hx hp)
        have hkz : (k : Int) + 1 < (l.length : Int) := by omega
        have hkz1 : (k : Int) < (l.length : Int) := by omega
        have hk0 : (0 : Int) ≤ (k : Int) + 1 := by omega
        have hkt : ((k : Int) + 1).toNat = k + 1 := by omega
        have HX := hide hx
        have HPP := hide hp
        clear hx hp
        cases he : eqA x p with
        | false =>
          have HE := hide he
          have hg := guardA
          have hq := fun W => eqlAttr x p W
          rw [he] at hq
          clear he
          go_wp2
          go_quiet (fail)
          go_wp2
          go_roundg (gk - 1)
          case measure => omega
          case rel =>
            refine ⟨k + 1, by go_num, by omega, below_dn (unhide HBW) _, ?_⟩
            rw [unhide HS, unhide HE, unhide HP, if_neg (by decide), List.take_succ_eq_append_getElem hk]
            congr 1
            have := (List.getElem?_eq_some_iff.1 (unhide HX)).2
            rw [this]
        | true =>
          have HE := hide he
          have hg := guardA
          have hq := fun W => eqlAttr x p W
          rw [he] at hq
          clear he
          obtain ⟨m, hm⟩ : ∃ m, m = k + 1 := ⟨_, rfl⟩
          have HM := hide hm
          clear hm
          have hcz : ¬ (l.length : Int) = (k : Int) + 1 := by omega
          go_wp2
          go_quiet (fail)
          go_wp2
          obtain ⟨q, hq0⟩ : ∃ q, l.length - (k + 1) = q := ⟨_, rfl⟩
          rw [hq0]
          have HQ0 := hide hq0
          have HKK := hide hkk
          clear hq0 hq a0 a1 a2 a3 b0 b1 b2 b3 hkz1 hk0 hkt hcz hkk
          go_loopg [3, 5] l.length (fun gk s t wx => ∃ (b c : Nat) (L : List AttrM), s = .int .i64 c ∧ t = .int .i64 ((b : Int) + 1) ∧ k + 1 + b + gk = k + 1 + l.length ∧ b < q ∧ L.length = l.length ∧ (compA (l.take (k + 1 + b + 1))).length = c ∧ L.take c = compA (l.take (k + 1 + b + 1)) ∧ c ≤ k + 1 + b ∧ (∀ j, k + 1 + b ≤ j → L[j]? = l[j]?) ∧ RowT wx g L ∧ Mod (fun k => k = g) w wx)
          case atStart =>
            have e := unhide HS
            rw [unhide HE, if_pos rfl, List.append_nil, unhide HP] at e
            have e0 := unhide HQ0
            refine ⟨0, k + 1, l, by go_num, rfl, by omega, by omega, rfl, ?_, ?_, by omega, fun _ _ => rfl, (unhide HH).below (below_dn (unhide HBW) _), Mod.of_below (below_dn (unhide HBW) _)⟩
            · rw [show k + 1 + 0 + 1 = k + 2 by omega, e]; simp; omega
            · rw [show k + 1 + 0 + 1 = k + 2 by omega, e]
          case round =>
            obtain ⟨b, c, L, rfl, rfl, hbk, hbq, hLl, hcl, htk, hcm, hrest, hR, hMo⟩ := hrel
            have e0 := unhide HQ0
            have hcn : c < l.length := by omega
            have hcz : (c : Int) < (l.length : Int) := by omega
            have hc0 : (0 : Int) ≤ (c : Int) := by omega
            have HTK := hide htk
            have HCL := hide hcl
            have HRE := hide hrest
            have HMO := hide hMo
            have HCM := hide hcm
            have HLL := hide hLl
            have HBK := hide hbk
            have hkz9 := hkz
            clear htk hcl hrest hMo hcm hbk hkz
            by_cases hb2 : b + 1 < q
            · obtain ⟨x', hx'⟩ : ∃ x, l[k + 1 + b + 1]? = some x := ⟨_, List.getElem?_eq_getElem (by omega)⟩
              obtain ⟨p', hp'⟩ : ∃ p, l[k + 1 + b]? = some p := ⟨_, List.getElem?_eq_getElem (by omega)⟩
              have o1 : (k + 1 + b + 1) * 4 = (k + 1) * 4 + (b + 1) * 4 := by omega
              have o2 : (k + 1 + b) * 4 = (k + 1) * 4 + b * 4 := by omega
              obtain ⟨a0, a1, a2, a3⟩ := hR.four (((unhide HRE) _ (by omega)).trans hx')
              obtain ⟨b0, b1, b2, b3⟩ := hR.four (((unhide HRE) _ (by omega)).trans hp')
              rw [o1] at a0 a1 a2 a3
              rw [o2] at b0 b1 b2 b3
              have HS2 := hide (compA_step hx' hp')
              have hbz : (b : Int) + 1 < (q : Int) := by omega
              have hbz1 : (b : Int) < (q : Int) := by omega
              have hb0 : (0 : Int) ≤ (b : Int) + 1 := by omega
              have hbt : ((b : Int) + 1).toNat = b + 1 := by omega
              have hqz : (q : Int) ≤ 2513169434916 := by omega
              have HX' := hide hx'
              have HR := hide hR
              have HO := hide (And.intro o1 o2)
              have f0 := hR.frozen (c * 4)
              have f1 := hR.frozen (c * 4 + 1)
              have f2 := hR.frozen (c * 4 + 2)
              have f3 := hR.frozen (c * 4 + 3)
              obtain ⟨oc, hoc⟩ : ∃ o, L[c]? = some o := ⟨_, List.getElem?_eq_getElem (by rw [unhide HLL]; exact hcn)⟩
              obtain ⟨c0, c1, c2, c3⟩ := hR.four hoc
              clear hx' hp' o1 o2 hR hoc e0 hcn hbq hb2
              cases he2 : eqA x' p' with
              | true =>
                have HE2 := hide he2
                have hq := fun W => neqAttr x' p' W
                rw [he2] at hq
                clear he2 c0 c1 c2 c3 f0 f1 f2 f3
                go_wp2
                go_quiet (fail)
                go_wp2
                go_roundg (gk - 1)
                case measure => have := unhide HBK; have := unhide HQ0; omega
                case rel =>
                  have hS2 := unhide HS2
                  rw [unhide HE2, if_pos rfl, List.append_nil] at hS2
                  have hbk := unhide HBK
                  have hcm := unhide HCM
                  have hq0 := unhide HQ0
                  refine ⟨b + 1, c, L, rfl, by go_num, by omega, by omega, unhide HLL, ?_, ?_, by omega, fun j hj => (unhide HRE) j (by omega), unhide HR, mod_dn (unhide HMO) _⟩
                  · rw [show k + 1 + (b + 1) + 1 = k + 1 + b + 2 by omega, hS2]; exact unhide HCL
                  · rw [show k + 1 + (b + 1) + 1 = k + 1 + b + 2 by omega, hS2]; exact unhide HTK
              | false =>
                have HE2 := hide he2
                have hq := fun W => neqAttr x' p' W
                rw [he2] at hq
                clear he2
                go_wp2
                go_quiet (fail)
                go_wp2
                go_roundg (gk - 1)
                case measure => have := unhide HBK; have := unhide HQ0; omega
                case rel =>
                  have hS2 := unhide HS2
                  rw [unhide HE2, if_neg (by decide)] at hS2
                  have hbk := unhide HBK
                  have hcm := unhide HCM
                  have hq0 := unhide HQ0
                  have hcl := unhide HCL
                  refine ⟨b + 1, c + 1, L.set c x', by go_num, by go_num, by omega, by omega, by rw [List.length_set]; exact unhide HLL, ?_, ?_, by omega, fun j hj => ?_, (show RowT (wr.drewN nq) g L from unhide HR).set (by rw [unhide HLL]; omega) x', mod_set4 (mod_dn (unhide HMO) nq) _ _ _ _ _ _ _ _⟩
                  · rw [show k + 1 + (b + 1) + 1 = k + 1 + b + 2 by omega, hS2, List.length_append, hcl]; rfl
                  · rw [show k + 1 + (b + 1) + 1 = k + 1 + b + 2 by omega, hS2, ← unhide HTK, List.take_succ_eq_append_getElem (by rw [List.length_set, unhide HLL]; omega), List.getElem_set_self, List.take_set_of_le (Nat.le_refl _)]
                  · rw [List.getElem?_set_ne (by omega)]; exact (unhide HRE) j (by omega)
            · have hbz : ¬ (b : Int) + 1 < (q : Int) := by omega
              have hqz : (q : Int) ≤ 2513169434916 := by omega
              have HC : Hid (compA l = L.take c ∧ (compA l).length = c) := hide (by
                have h1 := unhide HTK
                have h3 := unhide HCL
                have e9 : l.take (k + 1 + b + 1) = l := List.take_of_length_le (by omega)
                rw [e9] at h1 h3
                exact ⟨h1.symm, h3⟩)
              obtain ⟨w', hcr, hcur, hat, hmd⟩ := clear_rest hR c (by rw [unhide HLL]; exact hcn) (l.length - c) (l.length - c) 0 (by rw [unhide HLL])
              have HAT := hide hat
              have HMD := hide hmd
              have HCU := hide hcur
              have hne : ¬ (l.length : Int) = (c : Int) := by omega
              clear hat hmd hcur hR e0 hcn hbq hb2
              go_wp2
              go_ret
              refine ⟨?_, ?_, unhide HCU, (unhide HMO).trans (unhide HMD)⟩
              · rw [(unhide HC).2]; rfl
              · rw [(unhide HC).1]; exact unhide HAT
      · have hkz : ¬ (k : Int) + 1 < (l.length : Int) := by omega
        have HE : Hid (compA l = l) := hide (by
          have := unhide HP
          rwa [List.take_of_length_le (by omega)] at this)
        go_wp2
        go_ret
        refine ⟨?_, by rw [unhide HE]; exact ((unhide HH).below (unhide HBW)).attrs, ⟨_, (unhide HH).below (unhide HBW)⟩, Mod.of_below (unhide HBW)⟩
        rw [unhide HE]; rfl
end Go.Proofs.Ytabdgmcajndgbaa
