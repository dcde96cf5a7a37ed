/-
  slices.Compact at attributes. Package active: a set of attributes; a token and an entry of one's own. Package active: an entry in memory; a row of entries in memory.
-/
import Derived.Test.YtkakncngkmoegaaGreatSZaw
import Derived.BigQuiet
import Derived.Deep.QuietTactic
import Derived.Deep.LoopGhost
import Derived.Lib.SliceRun
import Derived.Deep.RegionWith
namespace Go.Proofs.YtkakncngkmoegaaGreat
open Go.RowKit Go.Sort

theorem eqAttr (a b : AttrM) (w : World) : (Op.equalIn 10000 148 (.agg #[.int .i64 a.space, .string a.pre, .string a.name, .string a.val]) (.agg #[.int .i64 b.space, .string b.pre, .string b.name, .string b.val])).run Tryz.prog w = .ok (eqA a b) w := by
  have u3 := Tryz.underlying3
  have a3 := Tryz.isAgg3
  have z3 := Tryz.sizeOf3
  have u9 := Tryz.underlying9
  have a9 := Tryz.isAgg9
  have z9 := Tryz.sizeOf9
  have hS : Tryz.prog.underlying 148 = some (.struct (Tryz.prog.fieldsOf 148)) := by kernel_rfl
  have hp : Tryz.prog.stoodInHeld 148 = false := by kernel_rfl
  have dk : ∀ x y : ByteArray, decide (x = y) = decide (x.toList = y.toList) := fun x y => decide_eq_decide.2 ⟨fun e => by rw [e], bytes_ext⟩
  rw [show (10000 : Nat) = 9999 + 1 from rfl, run_equalIn_agg w 9999 148 _ _ hS hp]
  simp only [Program.fieldsOf, Tryz.underlying148]
  go_simp
  unfold eqA
  simp only [dk]
  by_cases h0 : a.space = b.space <;> by_cases h1 : a.pre.toList = b.pre.toList <;> by_cases h2 : a.name.toList = b.name.toList <;> by_cases h3 : a.val.toList = b.val.toList <;> simp [h0, h1, h2, h3]

theorem neqAttr (a b : AttrM) (w : World) : (binOp .neq 148 (.agg #[.int .i64 a.space, .string a.pre, .string a.name, .string a.val]) (.agg #[.int .i64 b.space, .string b.pre, .string b.name, .string b.val])).run Tryz.prog w = .ok (.bool (!eqA a b)) w := by
  rw [run_neq_struct, eqAttr]; rfl
theorem eqlAttr (a b : AttrM) (w : World) : (binOp .eql 148 (.agg #[.int .i64 a.space, .string a.pre, .string a.name, .string a.val]) (.agg #[.int .i64 b.space, .string b.pre, .string b.name, .string b.val])).run Tryz.prog w = .ok (.bool (eqA a b)) w := by
  rw [run_eql_struct, eqAttr]; rfl
theorem guardA : Tryz.prog.eqGuardType Tryz.prog.depth 148 = false := by kernel_rfl

theorem below_dnAc {w w' : World} (h : Below w.heap.size w w') (n : Nat) : Below w.heap.size w (w'.drewN n) := ⟨h.os, h.tape, h.output, h.size, h.block⟩
theorem compA_small {l : List AttrM} (h : l.length < 2) : compA l = l := by
  match l, h with
  | [], _ => rfl
  | [x], _ => rfl

/-- As long as no two neighbours are one. -/
theorem compA_step {l : List AttrM} {k : Nat} {x p : AttrM} (hx : l[k + 1]? = some x) (hp : l[k]? = some p) : compA (l.take (k + 2)) = compA (l.take (k + 1)) ++ (if eqA x p = true then [] else [x]) := by
  have hlt := (List.getElem?_eq_some_iff.1 hx).1
  have e : l.take (k + 2) = l.take (k + 1) ++ [x] := by
    rw [List.take_succ_eq_append_getElem hlt]
    have := (List.getElem?_eq_some_iff.1 hx).2
    rw [this]
  rw [e, compA_snoc (k := k) (p := p) (by simp; omega) (by rw [List.getElem?_take, if_pos (by omega)]; exact hp)]

/-- What lies behind c attributes of a row is made zero. -/
theorem clear_rest {w : World} {g : Nat} {L : List AttrM} (h : RowT w g L) (c : Nat) (hc : c < L.length) (m cp ty : Nat) (hm : m = L.length - c) :
    ∃ w', (Builtin.clear_ #[45] ty #[.slice (some ⟨g, c * 4, none⟩) m cp]).run Tryz.prog w = .ok (.tuple #[]) w' ∧ (∃ cur, w'.heap[g]? = some (.cells cur 148 (0, 0))) ∧ AttrsIn w' (some ⟨g, 0, none⟩) (L.take c) ∧ Mod (fun k => k = g) w w' := by
  obtain ⟨m, rfl⟩ : ∃ m', m = m' + 1 := ⟨m - 1, by omega⟩
  obtain ⟨zs, hzs, hzl, hz1⟩ : ∃ zs : List Value, (Builtin.zeroCells #[.int .i64 0, .string ⟨#[]⟩, .string ⟨#[]⟩, .string ⟨#[]⟩] (m + 1)).toList = zs ∧ zs.length = (m + 1) * 4 ∧ ∀ v ∈ zs, v.oneCell' = true := by
    refine ⟨_, rfl, ?_, ?_⟩
    · have := size_zeroCells #[Value.int .i64 0, .string ⟨#[]⟩, .string ⟨#[]⟩, .string ⟨#[]⟩] (m + 1)
      simp at this
      rw [Array.length_toList, this]
    · intro v hv
      rw [Array.mem_toList_iff] at hv
      simp only [Builtin.zeroCells, Array.mem_map, Array.mem_range] at hv
      obtain ⟨i, _, rfl⟩ := hv
      have h4 : i % 4 < 4 := Nat.mod_lt _ (by omega)
      show ((#[Value.int .i64 0, .string ⟨#[]⟩, .string ⟨#[]⟩, .string ⟨#[]⟩] : Array Value)[i % 4]!).oneCell' = true
      generalize i % 4 = q at h4
      match q, h4 with
      | 0, _ => rfl
      | 1, _ => rfl
      | 2, _ => rfl
      | 3, _ => rfl
  have hst := run_storeCells_at Tryz.prog g (c * 4) 148 zs 0 (attrRow L).toArray w h (by simp [attrRow_len, hzl]; omega) hz1
  refine ⟨w.setRow g ((attrRow L).toArray.toList.take (c * 4 + 0) ++ zs ++ (attrRow L).toArray.toList.drop (c * 4 + 0 + zs.length)).toArray, ?_, ⟨_, setRow_heap w g _ _ 148 _ h⟩, ⟨fun i x hi => ?_⟩, ⟨rfl, rfl, rfl, by simp, fun k _ hk => setRow_other w g k _ hk⟩⟩
  · simp [Builtin.clear_, run_underlying Tryz.underlying45, Tryz.zeroValue148, hzs, Value.cells]
    simp at hst
    rw [hst]; simp
  · rw [List.getElem?_take] at hi
    split at hi
    · rename_i hic
      have key : ∀ j, j < 4 → (w.setRow g ((attrRow L).toArray.toList.take (c * 4 + 0) ++ zs ++ (attrRow L).toArray.toList.drop (c * 4 + 0 + zs.length)).toArray).cell? ⟨g, 0 + i * 4 + j, none⟩ = x.cells[j]? := by
        intro j hj
        rw [cell_of_row _ g _ _ _ _ (setRow_heap w g _ _ 148 _ h), List.getElem?_toArray, List.append_assoc, List.getElem?_append_left (by simp [attrRow_len]; omega), List.getElem?_take, if_pos (by omega), Nat.zero_add]
        show (attrRow L)[i * 4 + j]? = _
        rw [attrRow_get L i j hj, hi]; rfl
      exact ⟨g, 0, rfl, key 0 (by omega), key 1 (by omega), key 2 (by omega), key 3 (by omega)⟩
    · cases hi

theorem RowT.set1 {w : World} {g : Nat} {L : List AttrM} (h : RowT w g L) {c : Nat} {o y : AttrM} (hc : L[c]? = some o) (j : Nat) (hj : j < 4) (v : Value) (hy : y.cells = o.cells.set j v) :
    RowT (w.setCell ⟨g, c * 4 + j, none⟩ v) g (L.set c y) := by
  have h1 := heap_setCell_same w g (c * 4 + j) _ _ v h
  rw [List.setIfInBounds_toArray, attrRow, flat_set AttrM.cells 4 attr_len L c j hj o y v hc hy] at h1
  exact h1
theorem RowT.set {w : World} {g : Nat} {L : List AttrM} (h : RowT w g L) {c : Nat} (hc : c < L.length) (x : AttrM) :
    RowT ((((w.setCell ⟨g, c * 4, none⟩ (.int .i64 x.space)).setCell ⟨g, c * 4 + 1, none⟩ (.string x.pre)).setCell ⟨g, c * 4 + 2, none⟩ (.string x.name)).setCell ⟨g, c * 4 + 3, none⟩ (.string x.val)) g (L.set c x) := by
  obtain ⟨o, ho⟩ : ∃ o, L[c]? = some o := ⟨_, List.getElem?_eq_getElem hc⟩
  have h1 := h.set1 ho 0 (by omega) (.int .i64 x.space) (y := ⟨x.space, o.pre, o.name, o.val⟩) rfl
  have h2 := h1.set1 (c := c) (List.getElem?_set_self hc) 1 (by omega) (.string x.pre) (y := ⟨x.space, x.pre, o.name, o.val⟩) rfl
  rw [List.set_set] at h2
  have h3 := h2.set1 (c := c) (List.getElem?_set_self hc) 2 (by omega) (.string x.name) (y := ⟨x.space, x.pre, x.name, o.val⟩) rfl
  rw [List.set_set] at h3
  have h4 := h3.set1 (c := c) (List.getElem?_set_self hc) 3 (by omega) (.string x.val) (y := x) rfl
  rw [List.set_set] at h4
  exact h4

theorem mod_dn {F : Nat → Prop} {w w' : World} (h : Mod F w w') (n : Nat) : Mod F w (w'.drewN n) := ⟨h.os, h.tape, h.output, h.size, h.block⟩
theorem mod_set4 {g : Nat} {w w' : World} (h : Mod (fun k => k = g) w w') (a b c d : Nat) (u v x y : Value) : Mod (fun k => k = g) w ((((w'.setCell ⟨g, a, none⟩ u).setCell ⟨g, b, none⟩ v).setCell ⟨g, c, none⟩ x).setCell ⟨g, d, none⟩ y) :=
  (((h.trans (Mod.setCell _ _ _ rfl)).trans (Mod.setCell _ _ _ rfl)).trans (Mod.setCell _ _ _ rfl)).trans (Mod.setCell _ _ _ rfl)

set_option maxHeartbeats 4000000 in
set_option maxRecDepth 10000 in
theorem compact_any {w : World} {g : Nat} {l : List AttrM} (h : RowT w g l) (hl : l.length ≤ 2513169434916) :
    Calls Tryz.prog 147 #[.slice (some ⟨g, 0, none⟩) l.length l.length] w fun e w' => e = .returned (.slice (some ⟨g, 0, none⟩) (compA l).length l.length) ∧ AttrsIn w' (some ⟨g, 0, none⟩) (compA l) ∧ (∃ cur, w'.heap[g]? = some (.cells cur 148 (0, 0))) ∧ Mod (fun k => k = g) w w' := by
  have HH := hide h
  by_cases h2 : l.length < 2
  · have h2z : (l.length : Int) < 2 := by omega
    have HE : Hid (compA l = l) := hide (compA_small h2)
    clear h h2
    go_enter Tryz.func147, Tryz.ntmps147
    go_wp2
    go_ret
    refine ⟨?_, ?_, ⟨_, unhide HH⟩, Mod.refl _ _⟩
    · rw [unhide HE]; rfl
    · rw [unhide HE]; exact (unhide HH).attrs
  · have h2z : ¬ (l.length : Int) < 2 := by omega
    have h2n : 2 ≤ l.length := by omega
    have hlz : (l.length : Int) ≤ 2513169434916 := by omega
    have H2 := hide h2n
    clear h h2 h2n hl
    go_enter Tryz.func147, Tryz.ntmps147
    go_wp2
    go_loopg [3] l.length (fun gk s wx => ∃ k : Nat, s = .int .i64 ((k : Int) + 1) ∧ k + gk = l.length ∧ Below w.heap.size w wx ∧ compA (l.take (k + 1)) = l.take (k + 1))
    case atStart => exact ⟨0, rfl, by have := unhide H2; omega, Below.refl _ _, by cases l <;> rfl⟩
    case round =>
      obtain ⟨k, rfl, hkk, hb, hpre⟩ := hrel
      have HP := hide hpre
      have HBW := hide hb
      clear hpre hb
      by_cases hk : k + 1 < l.length
      · obtain ⟨x, hx⟩ : ∃ x, l[k + 1]? = some x := ⟨_, List.getElem?_eq_getElem hk⟩
        obtain ⟨p, hp⟩ : ∃ p, l[k]? = some p := ⟨_, List.getElem?_eq_getElem (by omega)⟩
        obtain ⟨a0, a1, a2, a3⟩ := ((unhide HH).below (unhide HBW)).four hx
        obtain ⟨b0, b1, b2, b3⟩ := ((unhide HH).below (unhide HBW)).four hp
        have HS := hide (compA_step hx hp)
        have hkz : (k : Int) + 1 < (l.length : Int) := by omega
        have hkz1 : (k : Int) < (l.length : Int) := by omega
        have hk0 : (0 : Int) ≤ (k : Int) + 1 := by omega
        have hkt : ((k : Int) + 1).toNat = k + 1 := by omega
        have HX := hide hx
        have HPP := hide hp
        clear hx hp
        cases he : eqA x p with
        | false =>
          have HE := hide he
          have hg := guardA
          have hq := fun W => eqlAttr x p W
          rw [he] at hq
          clear he
          go_wp2
          go_quiet (fail)
          go_wp2
          go_roundg (gk - 1)
          case measure => omega
          case rel =>
            refine ⟨k + 1, by go_num, by omega, below_dnAc (unhide HBW) _, ?_⟩
            rw [unhide HS, unhide HE, unhide HP, if_neg (by decide), List.take_succ_eq_append_getElem hk]
            congr 1
            have := (List.getElem?_eq_some_iff.1 (unhide HX)).2
            rw [this]
        | true =>
          have HE := hide he
          have hg := guardA
          have hq := fun W => eqlAttr x p W
          rw [he] at hq
          clear he
          obtain ⟨m, hm⟩ : ∃ m, m = k + 1 := ⟨_, rfl⟩
          have HM := hide hm
          clear hm
          have hcz : ¬ (l.length : Int) = (k : Int) + 1 := by omega
          go_wp2
          go_quiet (fail)
          go_wp2
          obtain ⟨q, hq0⟩ : ∃ q, l.length - (k + 1) = q := ⟨_, rfl⟩
          rw [hq0]
          have HQ0 := hide hq0
          have HKK := hide hkk
          clear hq0 hq a0 a1 a2 a3 b0 b1 b2 b3 hkz1 hk0 hkt hcz hkk
          go_loopg [3, 5] l.length (fun gk s t wx => ∃ (b c : Nat) (L : List AttrM), s = .int .i64 c ∧ t = .int .i64 ((b : Int) + 1) ∧ k + 1 + b + gk = k + 1 + l.length ∧ b < q ∧ L.length = l.length ∧ (compA (l.take (k + 1 + b + 1))).length = c ∧ L.take c = compA (l.take (k + 1 + b + 1)) ∧ c ≤ k + 1 + b ∧ (∀ j, k + 1 + b ≤ j → L[j]? = l[j]?) ∧ RowT wx g L ∧ Mod (fun k => k = g) w wx)
          case atStart =>
            have e := unhide HS
            rw [unhide HE, if_pos rfl, List.append_nil, unhide HP] at e
            have e0 := unhide HQ0
            refine ⟨0, k + 1, l, by go_num, rfl, by omega, by omega, rfl, ?_, ?_, by omega, fun _ _ => rfl, (unhide HH).below (below_dnAc (unhide HBW) _), Mod.of_below (below_dnAc (unhide HBW) _)⟩
            · rw [show k + 1 + 0 + 1 = k + 2 by omega, e]; simp; omega
            · rw [show k + 1 + 0 + 1 = k + 2 by omega, e]
          case round =>
            obtain ⟨b, c, L, rfl, rfl, hbk, hbq, hLl, hcl, htk, hcm, hrest, hR, hMo⟩ := hrel
            have e0 := unhide HQ0
            have hcn : c < l.length := by omega
            have hcz : (c : Int) < (l.length : Int) := by omega
            have hc0 : (0 : Int) ≤ (c : Int) := by omega
            have HTK := hide htk
            have HCL := hide hcl
            have HRE := hide hrest
            have HMO := hide hMo
            have HCM := hide hcm
            have HLL := hide hLl
            have HBK := hide hbk
            have hkz9 := hkz
            clear htk hcl hrest hMo hcm hbk hkz
            by_cases hb2 : b + 1 < q
            · obtain ⟨x', hx'⟩ : ∃ x, l[k + 1 + b + 1]? = some x := ⟨_, List.getElem?_eq_getElem (by omega)⟩
              obtain ⟨p', hp'⟩ : ∃ p, l[k + 1 + b]? = some p := ⟨_, List.getElem?_eq_getElem (by omega)⟩
              have o1 : (k + 1 + b + 1) * 4 = (k + 1) * 4 + (b + 1) * 4 := by omega
              have o2 : (k + 1 + b) * 4 = (k + 1) * 4 + b * 4 := by omega
              obtain ⟨a0, a1, a2, a3⟩ := hR.four (((unhide HRE) _ (by omega)).trans hx')
              obtain ⟨b0, b1, b2, b3⟩ := hR.four (((unhide HRE) _ (by omega)).trans hp')
              rw [o1] at a0 a1 a2 a3
              rw [o2] at b0 b1 b2 b3
              have HS2 := hide (compA_step hx' hp')
              have hbz : (b : Int) + 1 < (q : Int) := by omega
              have hbz1 : (b : Int) < (q : Int) := by omega
              have hb0 : (0 : Int) ≤ (b : Int) + 1 := by omega
              have hbt : ((b : Int) + 1).toNat = b + 1 := by omega
              have hqz : (q : Int) ≤ 2513169434916 := by omega
              have HX' := hide hx'
              have HR := hide hR
              have HO := hide (And.intro o1 o2)
              have f0 := hR.frozen (c * 4)
              have f1 := hR.frozen (c * 4 + 1)
              have f2 := hR.frozen (c * 4 + 2)
              have f3 := hR.frozen (c * 4 + 3)
              obtain ⟨oc, hoc⟩ : ∃ o, L[c]? = some o := ⟨_, List.getElem?_eq_getElem (by rw [unhide HLL]; exact hcn)⟩
              obtain ⟨c0, c1, c2, c3⟩ := hR.four hoc
              clear hx' hp' o1 o2 hR hoc e0 hcn hbq hb2
              cases he2 : eqA x' p' with
              | true =>
                have HE2 := hide he2
                have hq := fun W => neqAttr x' p' W
                rw [he2] at hq
                clear he2 c0 c1 c2 c3 f0 f1 f2 f3
                go_wp2
                go_quiet (fail)
                go_wp2
                go_roundg (gk - 1)
                case measure => have := unhide HBK; have := unhide HQ0; omega
                case rel =>
                  have hS2 := unhide HS2
                  rw [unhide HE2, if_pos rfl, List.append_nil] at hS2
                  have hbk := unhide HBK
                  have hcm := unhide HCM
                  have hq0 := unhide HQ0
                  refine ⟨b + 1, c, L, rfl, by go_num, by omega, by omega, unhide HLL, ?_, ?_, by omega, fun j hj => (unhide HRE) j (by omega), unhide HR, mod_dn (unhide HMO) _⟩
                  · rw [show k + 1 + (b + 1) + 1 = k + 1 + b + 2 by omega, hS2]; exact unhide HCL
                  · rw [show k + 1 + (b + 1) + 1 = k + 1 + b + 2 by omega, hS2]; exact unhide HTK
              | false =>
                have HE2 := hide he2
                have hq := fun W => neqAttr x' p' W
                rw [he2] at hq
                clear he2
                go_wp2
                go_quiet (fail)
                go_wp2
                go_roundg (gk - 1)
                case measure => have := unhide HBK; have := unhide HQ0; omega
                case rel =>
                  have hS2 := unhide HS2
                  rw [unhide HE2, if_neg (by decide)] at hS2
                  have hbk := unhide HBK
                  have hcm := unhide HCM
                  have hq0 := unhide HQ0
                  have hcl := unhide HCL
                  refine ⟨b + 1, c + 1, L.set c x', by go_num, by go_num, by omega, by omega, by rw [List.length_set]; exact unhide HLL, ?_, ?_, by omega, fun j hj => ?_, (show RowT (wr.drewN nq) g L from unhide HR).set (by rw [unhide HLL]; omega) x', mod_set4 (mod_dn (unhide HMO) nq) _ _ _ _ _ _ _ _⟩
                  · rw [show k + 1 + (b + 1) + 1 = k + 1 + b + 2 by omega, hS2, List.length_append, hcl]; rfl
                  · rw [show k + 1 + (b + 1) + 1 = k + 1 + b + 2 by omega, hS2, ← unhide HTK, List.take_succ_eq_append_getElem (by rw [List.length_set, unhide HLL]; omega), List.getElem_set_self, List.take_set_of_le (Nat.le_refl _)]
                  · rw [List.getElem?_set_ne (by omega)]; exact (unhide HRE) j (by omega)
            · have hbz : ¬ (b : Int) + 1 < (q : Int) := by omega
              have hqz : (q : Int) ≤ 2513169434916 := by omega
              have HC : Hid (compA l = L.take c ∧ (compA l).length = c) := hide (by
                have h1 := unhide HTK
                have h3 := unhide HCL
                have e9 : l.take (k + 1 + b + 1) = l := List.take_of_length_le (by omega)
                rw [e9] at h1 h3
                exact ⟨h1.symm, h3⟩)
              obtain ⟨w', hcr, hcur, hat, hmd⟩ := clear_rest hR c (by rw [unhide HLL]; exact hcn) (l.length - c) (l.length - c) 0 (by rw [unhide HLL])
              have HAT := hide hat
              have HMD := hide hmd
              have HCU := hide hcur
              have hne : ¬ (l.length : Int) = (c : Int) := by omega
              clear hat hmd hcur hR e0 hcn hbq hb2
              go_wp2
              go_ret
              refine ⟨?_, ?_, unhide HCU, (unhide HMO).trans (unhide HMD)⟩
              · rw [(unhide HC).2]; rfl
              · rw [(unhide HC).1]; exact unhide HAT
      · have hkz : ¬ (k : Int) + 1 < (l.length : Int) := by omega
        have HE : Hid (compA l = l) := hide (by
          have := unhide HP
          rwa [List.take_of_length_le (by omega)] at this)
        go_wp2
        go_ret
        refine ⟨?_, by rw [unhide HE]; exact ((unhide HH).below (unhide HBW)).attrs, ⟨_, (unhide HH).below (unhide HBW)⟩, Mod.of_below (unhide HBW)⟩
        rw [unhide HE]; rfl
end Go.Proofs.YtkakncngkmoegaaGreat

namespace Go.Proofs.YtkakncngkmoegaaGreat
open Go.RowKit Go.Sort

/-- Attributes that lie in a block of their own, not older than base. -/
structure AtrS (w : World) (base : Nat) (a : Option Addr) (l : List AttrM) : Prop where
  ins : AttrsIn w a l
  own : ∀ b off, a = some ⟨b, off, none⟩ → base ≤ b ∧ ∃ cur, w.heap[b]? = some (.cells cur 148 (0, 0))
  nil : l = [] ∨ ∃ b off, a = some ⟨b, off, none⟩
section
variable {w w' : World} {base : Nat} {a : Option Addr} {l : List AttrM}
theorem AtrS.empty (w : World) (base : Nat) : AtrS w base none [] := ⟨⟨fun i x h => by simp at h⟩, fun b off e => by (cases e), .inl rfl⟩
theorem AtrS.lt (h : AtrS w base a l) {b off : Nat} (e : a = some ⟨b, off, none⟩) : base ≤ b ∧ b < w.heap.size := by
  obtain ⟨h1, cur, h2⟩ := h.own b off e
  exact ⟨h1, lt_of_block h2⟩
theorem AtrS.mod {F : Nat → Prop} (h : AtrS w base a l) (hm : Mod F w w') (hF : ∀ b off, a = some ⟨b, off, none⟩ → ¬ F b) : AtrS w' base a l :=
  ⟨h.ins.modA hm hF, fun b off e => by
    obtain ⟨h1, cur, h2⟩ := h.own b off e
    exact ⟨h1, cur, (hm.block b (lt_of_block h2) (hF b off e)).trans h2⟩, h.nil⟩
theorem AtrS.below (h : AtrS w base a l) (hb : Below w.heap.size w w') : AtrS w' base a l := h.mod (Mod.of_below (F := fun _ => False) hb) (fun _ _ _ e => e)
theorem AtrS.lower {b2 : Nat} (h : AtrS w base a l) (hb : b2 ≤ base) : AtrS w b2 a l := ⟨h.ins, fun b off e => ⟨Nat.le_trans hb (h.own b off e).1, (h.own b off e).2⟩, h.nil⟩
end

theorem setL_nil : setL [] = [] := by simp [setL, sortA, compA]

/-- A whole block written anew, cell by cell. -/
theorem run_block (b : Nat) : ∀ (vs : List Value) (o : Nat) (w : World) (cur : Array Value) (t : TypeId), w.heap[b]? = some (.cells cur t (0, 0)) →
    ∃ cur', (w.setCells b o vs).heap[b]? = some (.cells cur' t (0, 0)) ∧ cur'.size = cur.size
  | [], _, w, cur, t, h => ⟨cur, h, rfl⟩
  | v :: r, o, w, cur, t, h => by
    have h1 := heap_setCell_same w b o cur t v h
    obtain ⟨cur', h2, h3⟩ := run_block b r (o + 1) _ _ t h1
    exact ⟨cur', h2, by rw [h3]; simp⟩
theorem run_other (b k : Nat) (hk : k ≠ b) : ∀ (vs : List Value) (o : Nat) (w : World), (w.setCells b o vs).heap[k]? = w.heap[k]?
  | [], _, _ => rfl
  | v :: r, o, w => by rw [World.setCells, run_other b k hk r]; exact Below.heap_setCell _ _ _ _ hk
theorem run_size (b : Nat) : ∀ (vs : List Value) (o : Nat) (w : World), (w.setCells b o vs).heap.size = w.heap.size
  | [], _, _ => rfl
  | v :: r, o, w => by rw [World.setCells, run_size b r]; simp
theorem run_rest (b : Nat) : ∀ (vs : List Value) (o : Nat) (w : World), (w.setCells b o vs).os = w.os ∧ (w.setCells b o vs).tape = w.tape ∧ (w.setCells b o vs).output = w.output
  | [], _, _ => ⟨rfl, rfl, rfl⟩
  | v :: r, o, w => by rw [World.setCells]; exact run_rest b r (o + 1) _
theorem run_mod {F : Nat → Prop} (b : Nat) (hb : F b) (vs : List Value) (o : Nat) (w : World) : Mod F w (w.setCells b o vs) := by
  obtain ⟨h1, h2, h3⟩ := run_rest b vs o w
  exact ⟨h1, h2, h3, by rw [run_size]; exact Nat.le_refl _, fun k _ hk => run_other b k (fun e => hk (by rw [e]; exact hb)) vs o w⟩
theorem run_whole (b : Nat) (vs : List Value) (w : World) (cur : Array Value) (t : TypeId) (h : w.heap[b]? = some (.cells cur t (0, 0))) (hs : cur.size = vs.length) :
    (w.setCells b 0 vs).heap[b]? = some (.cells vs.toArray t (0, 0)) := by
  obtain ⟨cur', h1, h2⟩ := run_block b vs 0 w cur t h
  have hin : ∀ j, j < vs.length → (w.cell? ⟨b, 0 + j, none⟩).isSome = true := by
    intro j hj
    rw [cell_of_row w b _ _ _ _ h, Array.getElem?_eq_getElem (by omega)]; rfl
  have e : cur' = vs.toArray := by
    apply Array.ext_getElem?
    intro j
    by_cases hj : j < vs.length
    · have h3 := World.cell?_setCells_in b vs 0 w hin j hj
      rw [cell_of_row _ b _ _ _ _ h1, Nat.zero_add] at h3
      rw [h3, List.getElem?_toArray, List.getElem?_eq_getElem hj]
    · rw [Array.getElem?_eq_none (by omega), List.getElem?_toArray, List.getElem?_eq_none (by omega)]
  rw [e] at h1
  exact h1

theorem ownA_nil (w : World) (a : Option Addr) (cap : Nat) : Calls Tryz.prog 108 #[.slice a 0 cap] w fun e w' => e = .returned (.slice none 0 0) ∧ w' = w := by
  refine (ownA_any w a cap [] ⟨fun i x h => by simp at h⟩ (by simp)).mono ?_
  rintro e w' (⟨_, h1, h2⟩ | ⟨h, _⟩)
  · exact ⟨h1, h2⟩
  · simp at h
theorem ownA_pos (w : World) (a : Option Addr) (cap : Nat) (l : List AttrM) (hl : AttrsIn w a l) (hn : l.length ≤ 2513169434916) (hp : 0 < l.length) :
    Calls Tryz.prog 108 #[.slice a l.length cap] w fun e w' => e = .returned (.slice (some ⟨w.heap.size, 0, none⟩) l.length l.length) ∧ RowT w' w.heap.size l ∧ Below w.heap.size w w' := by
  refine (ownA_any w a cap l hl hn).mono ?_
  rintro e w' (⟨h, _⟩ | ⟨_, h1, h2, h3⟩)
  · subst h; simp at hp
  · exact ⟨h1, h2, h3⟩
theorem compactN_any (w : World) : Calls Tryz.prog 147 #[.slice none 0 0] w fun e w' => e = .returned (.slice none 0 0) ∧ w' = w := by
  go_enter Tryz.func147, Tryz.ntmps147
  go_wp2
  go_ret
  exact ⟨rfl, rfl⟩
/-- A list of one's own, empty or not. -/
theorem ownA_s (w : World) (a : Option Addr) (cap : Nat) (l : List AttrM) (hl : AttrsIn w a l) (hn : l.length ≤ 2513169434916) :
    Calls Tryz.prog 108 #[.slice a l.length cap] w fun e w' => ∃ ao ac, e = .returned (.slice ao l.length ac) ∧ AtrS w' w.heap.size ao l ∧ Below w.heap.size w w' := by
  refine (ownA_any w a cap l hl hn).mono ?_
  rintro e w' (⟨rfl, rfl, rfl⟩ | ⟨_, rfl, h2, h3⟩)
  · exact ⟨none, 0, rfl, AtrS.empty _ _, Below.refl _ _⟩
  · exact ⟨_, _, rfl, ⟨h2.attrs, fun b off e => by cases e; exact ⟨Nat.le_refl _, _, h2⟩, .inr ⟨_, _, rfl⟩⟩, h3⟩

set_option maxHeartbeats 1000000 in
theorem setOf_any (w : World) (a : Option Addr) (cap : Nat) (l : List AttrM) (hl : AttrsIn w a l) (hn : l.length ≤ 2513169434916) :
    Calls Tryz.prog 114 #[.slice a l.length cap] w fun e w' => ∃ so sc, e = .returned (.slice so (setL l).length sc) ∧ AtrS w' w.heap.size so (setL l) ∧ Below w.heap.size w w' := by
  by_cases h0 : l = []
  · subst h0
    go_enter Tryz.func114, Tryz.ntmps114
    go_wp2_with (first | (go_at_call 108; refine (ownA_nil _ _ _).mono ?_; rintro e w1 ⟨rfl, rfl⟩) | (go_at_call 145; refine (sortN_any _ _).mono ?_; rintro e w2 ⟨rfl, rfl⟩) | (go_at_call 147; refine (compactN_any _).mono ?_; rintro e w2 ⟨rfl, rfl⟩))
    go_ret
    exact ⟨none, 0, by rw [setL_nil]; rfl, by rw [setL_nil]; exact AtrS.empty _ _, Below.refl _ _⟩
  · have HO := hide (ownA_pos w a cap l hl hn (List.length_pos_iff.2 h0))
    have HN := hide hn
    have HLS := hide (sortA_len l)
    have HC := hide (fun W (h : RowT W w.heap.size (sortA l)) => compact_any h (by rw [sortA_len]; exact hn))
    rw [sortA_len] at HC
    clear hl hn h0
    go_enter Tryz.func114, Tryz.ntmps114
    go_wp2_with (first | (go_at_call 108; refine (unhide HO).mono ?_; rintro e w1 ⟨rfl, hr, hb⟩; have HR := hide hr; have HB := hide hb; clear hr hb) | (go_at_call 145; refine (sort_any (unhide HR) _ (unhide HN)).mono ?_; rintro e w2 ⟨rfl, hr, hm⟩; have HR2 := hide hr; have HM2 := hide hm; clear hr hm) | (go_at_call 147; refine ((unhide HC) _ (unhide HR2)).mono ?_; rintro e w3 ⟨rfl, ha, hc, hm⟩; have HA3 := hide ha; have HC3 := hide hc; have HM3 := hide hm; clear ha hc hm))
    go_ret
    have hM : Mod (fun k => k = w.heap.size) w1 w3 := (unhide HM2).trans (unhide HM3)
    have hB : Below w.heap.size w w3 := (unhide HB).trans (hM.below (unhide HB).size (fun k e => by omega))
    refine ⟨_, _, rfl, ⟨unhide HA3, fun b off e => ?_, .inr ⟨_, _, rfl⟩⟩, hB⟩
    cases e
    exact ⟨Nat.le_refl _, unhide HC3⟩

/-- A token. -/
structure TokM where
  kind : Int
  name : ByteArray
  data : ByteArray
  system : ByteArray
  has : Int
  quirks : Bool
  char : Int
  self : Bool
  attrs : List AttrM
def TokM.cells (t : TokM) (v : Value) : List Value := [.int .i64 t.kind, .string t.name, .string t.data, .string t.system, .int .i64 t.has, .bool t.quirks, .int .i32 t.char, .bool t.self, v]
def tok0 : TokM := ⟨0, ⟨#[]⟩, ⟨#[]⟩, ⟨#[]⟩, 0, false, 0, false, []⟩

/-- The first of two new blocks, and the second. -/
theorem two_new (w : World) (A B : Obj) (w1 : World) (hb : Below ((w.alloc A).alloc B).heap.size ((w.alloc A).alloc B) w1) : w1.heap[w.heap.size]? = some A ∧ w1.heap[w.heap.size + 1]? = some B ∧ Below w.heap.size w w1 :=
  ⟨(hb.block _ (by simp; omega)).trans (heap_alloc2_old w A B), (hb.block _ (by simp)).trans (heap_alloc2_new w A B), (below_two w A B).trans (hb.mono (by simp; omega))⟩

theorem free_row {w : World} {b : Nat} {cs : Array Value} {t : TypeId} (h : w.heap[b]? = some (.cells cs t (0, 0))) (j : Nat) : w.frozen? ⟨b, j, none⟩ = false := by simp [World.frozen?, h]
theorem nine {w : World} {b : Nat} {v0 v1 v2 v3 v4 v5 v6 v7 v8 : Value} {t : TypeId} (h : w.heap[b]? = some (.cells #[v0, v1, v2, v3, v4, v5, v6, v7, v8] t (0, 0))) :
    w.cell? ⟨b, 0, none⟩ = some v0 ∧ w.cell? ⟨b, 1, none⟩ = some v1 ∧ w.cell? ⟨b, 2, none⟩ = some v2 ∧ w.cell? ⟨b, 3, none⟩ = some v3 ∧ w.cell? ⟨b, 4, none⟩ = some v4 ∧ w.cell? ⟨b, 5, none⟩ = some v5 ∧ w.cell? ⟨b, 6, none⟩ = some v6 ∧ w.cell? ⟨b, 7, none⟩ = some v7 ∧ w.cell? ⟨b, 8, none⟩ = some v8 ∧ ∀ j, w.frozen? ⟨b, j, none⟩ = false :=
  ⟨cell_of_row _ _ 0 _ _ _ h, cell_of_row _ _ 1 _ _ _ h, cell_of_row _ _ 2 _ _ _ h, cell_of_row _ _ 3 _ _ _ h, cell_of_row _ _ 4 _ _ _ h, cell_of_row _ _ 5 _ _ _ h, cell_of_row _ _ 6 _ _ _ h, cell_of_row _ _ 7 _ _ _ h, cell_of_row _ _ 8 _ _ _ h, free_row h⟩

set_option maxHeartbeats 2000000 in
theorem ownTok_any (w : World) (t : TokM) (a : Option Addr) (cap : Nat) (hl : AttrsIn w a t.attrs) (hn : t.attrs.length ≤ 2513169434916) :
    Calls Tryz.prog 56 #[.agg (t.cells (.slice a t.attrs.length cap)).toArray] w fun e w' => ∃ ao ac, e = .returned (.agg (t.cells (.slice ao t.attrs.length ac)).toArray) ∧ AtrS w' w.heap.size ao t.attrs ∧ Below w.heap.size w w' := by
  obtain ⟨t0, t1, t2, t3, t4, t5, t6, t7, ta⟩ := t
  simp only [TokM.cells] at *
  have hb0 := below_two w (.cells #[.int .i64 t0, .string t1, .string t2, .string t3, .int .i64 t4, .bool t5, .int .i32 t6, .bool t7, .slice a ta.length cap] 52) (.cells #[.int .i64 0, .string ⟨#[]⟩, .string ⟨#[]⟩, .string ⟨#[]⟩, .int .i64 0, .bool false, .int .i32 0, .bool false, .slice none 0 0] 52)
  have HO := hide (ownA_s _ a cap ta (hl.below hb0) hn)
  have HT := hide (two_new w (.cells #[.int .i64 t0, .string t1, .string t2, .string t3, .int .i64 t4, .bool t5, .int .i32 t6, .bool t7, .slice a ta.length cap] 52) (.cells #[.int .i64 0, .string ⟨#[]⟩, .string ⟨#[]⟩, .string ⟨#[]⟩, .int .i64 0, .bool false, .int .i32 0, .bool false, .slice none 0 0] 52))
  clear hl hn hb0
  go_enter Tryz.func56, Tryz.ntmps56
  go_wp2_with (go_at_call 108; refine (unhide HO).mono ?_; rintro e w1 ⟨ao, ac, rfl, ha, hb⟩; obtain ⟨k0, k1, k2⟩ := (unhide HT) _ hb; have K0 := hide k0; have K1 := hide k1; have K2 := hide k2; have HA := hide ha; obtain ⟨c0, c1, c2, c3, c4, c5, c6, c7, c8, cf⟩ := nine k0; obtain ⟨d0, d1, d2, d3, d4, d5, d6, d7, d8, df⟩ := nine k1; clear ha hb k0 k1 k2)
  have hb1 : (w1.setCell ⟨w.heap.size, 8, none⟩ (.slice ao ta.length ac)).heap[w.heap.size + 1]? = _ := (Below.heap_setCell _ _ _ _ (by simp)).trans (unhide K1)
  have hblk := run_whole (w.heap.size + 1) [.int .i64 t0, .string t1, .string t2, .string t3, .int .i64 t4, .bool t5, .int .i32 t6, .bool t7, .slice ao ta.length ac] _ _ _ hb1 rfl
  have hM : Mod (fun k => k = w.heap.size ∨ k = w.heap.size + 1) w1 ((w1.setCell ⟨w.heap.size, 8, none⟩ (.slice ao ta.length ac)).setCells (w.heap.size + 1) 0 [.int .i64 t0, .string t1, .string t2, .string t3, .int .i64 t4, .bool t5, .int .i32 t6, .bool t7, .slice ao ta.length ac]) :=
    (Mod.setCell _ _ _ (.inl rfl)).trans (run_mod _ (.inr rfl) _ _ _)
  refine bodyPost_ret (v := .agg #[.int .i64 t0, .string t1, .string t2, .string t3, .int .i64 t4, .bool t5, .int .i32 t6, .bool t7, .slice ao ta.length ac]) (results_cell_row Tryz.results56 _ _ (w.heap.size + 1) _ _ _ _ rfl hblk Tryz.underlying52 rfl (by kernel_rfl)) rfl ⟨ao, ac, rfl, ?_, ?_⟩
  · refine ((unhide HA).mod hM (fun b off e => ?_)).lower (by simp; omega)
    have := ((unhide HA).lt e).1
    simp at this
    omega
  · exact (unhide K2).trans (hM.below (unhide K2).size (fun k hk => by omega))
end Go.Proofs.YtkakncngkmoegaaGreat

namespace Go.Proofs.YtkakncngkmoegaaGreat
open Go.RowKit Go.Sort

/-- An entry: its element's number, namespace and name, its token. -/
structure EntM where
  node : Int
  sp : Int
  nm : ByteArray
  tok : TokM
def mark0 : EntM := ⟨-1, 0, ⟨#[]⟩, tok0⟩
def EntM.cells (x : EntM) (av sv : Value) : List Value :=
  [.int .i64 x.node, .int .i64 x.sp, .string x.nm, .int .i64 x.tok.kind, .string x.tok.name, .string x.tok.data, .string x.tok.system, .int .i64 x.tok.has, .bool x.tok.quirks, .int .i32 x.tok.char, .bool x.tok.self, av, sv]

/-- Attributes that lie in a block of F. -/
structure AtrF (w : World) (F : Nat → Prop) (a : Option Addr) (l : List AttrM) : Prop where
  ins : AttrsIn w a l
  own : ∀ b off, a = some ⟨b, off, none⟩ → F b ∧ ∃ cur, w.heap[b]? = some (.cells cur 148 (0, 0))
  nil : l = [] ∨ ∃ b off, a = some ⟨b, off, none⟩
/-- The entry at block b, within F. -/
structure EntIn (w : World) (F : Nat → Prop) (b : Nat) (x : EntM) : Prop where
  fb : F b
  few : x.tok.attrs.length ≤ 2513169434916
  lies : ∃ ao ac so sc, w.heap[b]? = some (.cells (x.cells (.slice ao x.tok.attrs.length ac) (.slice so (setL x.tok.attrs).length sc)).toArray 125 (0, 0)) ∧ AtrF w F ao x.tok.attrs ∧ AtrF w F so (setL x.tok.attrs)

section
variable {w w' : World} {F G : Nat → Prop} {a : Option Addr} {l : List AttrM} {b : Nat} {x : EntM}
theorem AtrS.f {base : Nat} (h : AtrS w base a l) (hF : ∀ k, base ≤ k → k < w.heap.size → F k) : AtrF w F a l :=
  ⟨h.ins, fun b off e => ⟨hF b (h.lt e).1 (h.lt e).2, (h.own b off e).2⟩, h.nil⟩
theorem AtrF.wide (h : AtrF w F a l) (hF : ∀ k, F k → G k) : AtrF w G a l := ⟨h.ins, fun b off e => ⟨hF _ (h.own b off e).1, (h.own b off e).2⟩, h.nil⟩
/-- Where the blocks of F that hold attributes or entries stay as they are. -/
theorem AtrF.keep (h : AtrF w F a l) (hk : ∀ k cur, F k → w.heap[k]? = some (.cells cur 148 (0, 0)) → w'.heap[k]? = w.heap[k]?) : AtrF w' F a l := by
  refine ⟨⟨fun i y hi => ?_⟩, fun b off e => ?_, h.nil⟩
  · obtain ⟨b, off, e, c0, c1, c2, c3⟩ := h.ins.cells i y hi
    obtain ⟨hf, cur, hc⟩ := h.own b off e
    have hb := hk b cur hf hc
    exact ⟨b, off, e, (World.cell?_of_block hb).trans c0, (World.cell?_of_block hb).trans c1, (World.cell?_of_block hb).trans c2, (World.cell?_of_block hb).trans c3⟩
  · obtain ⟨hf, cur, hc⟩ := h.own b off e
    exact ⟨hf, cur, (hk b cur hf hc).trans hc⟩
theorem EntIn.lt (h : EntIn w F b x) : b < w.heap.size := by
  obtain ⟨_, _, _, _, h, _⟩ := h.lies
  exact lt_of_block h
theorem EntIn.wide (h : EntIn w F b x) (hF : ∀ k, F k → G k) : EntIn w G b x := by
  obtain ⟨ao, ac, so, sc, h1, h2, h3⟩ := h.lies
  exact ⟨hF _ h.fb, h.few, ao, ac, so, sc, h1, h2.wide hF, h3.wide hF⟩
theorem EntIn.keep (h : EntIn w F b x) (hb : w'.heap[b]? = w.heap[b]?) (hk : ∀ k cur, F k → w.heap[k]? = some (.cells cur 148 (0, 0)) → w'.heap[k]? = w.heap[k]?) : EntIn w' F b x := by
  obtain ⟨ao, ac, so, sc, h1, h2, h3⟩ := h.lies
  exact ⟨h.fb, h.few, ao, ac, so, sc, hb.trans h1, h2.keep hk, h3.keep hk⟩
theorem EntIn.mod (h : EntIn w F b x) (hm : Mod G w w') (hG : ∀ k, F k → ¬ G k) : EntIn w' F b x :=
  h.keep (hm.block b h.lt (hG b h.fb)) (fun k _ hk hc => hm.block k (lt_of_block hc) (hG k hk))

theorem isMarker_any (h : EntIn w F b x) : Calls Tryz.prog 149 #[.pointer (some ⟨b, 0, none⟩)] w fun e w' => e = .returned (.bool (x.node == -1)) ∧ w = w' := by
  obtain ⟨ao, ac, so, sc, h1, _⟩ := h.lies
  have c0 : w.cell? ⟨b, 0, none⟩ = some (.int .i64 x.node) := cell_of_row _ _ 0 _ _ _ h1
  clear h h1
  go_enter Tryz.func149, Tryz.ntmps149
  go_wp2
  go_ret
  exact ⟨rfl, rfl⟩
end

set_option maxHeartbeats 2000000 in
theorem newMarker_any (w : World) : Calls Tryz.prog 78 #[] w fun e w' => e = .returned (.pointer (some ⟨w.heap.size, 0, none⟩)) ∧ EntIn w' (fun k => w.heap.size ≤ k ∧ k < w'.heap.size) w.heap.size mark0 ∧ Below w.heap.size w w' := by
  go_enter Tryz.func78, Tryz.ntmps78
  go_wp2
  go_ret
  refine ⟨rfl, ⟨by simp, by simp [mark0, tok0], none, 0, none, 0, ?_, (AtrS.empty _ w.heap.size).f (fun k h1 h2 => ⟨h1, h2⟩), ?_⟩, below_newAc _ _⟩
  · show _ = some (Obj.cells (mark0.cells (.slice none 0 0) (.slice none (setL []).length 0)).toArray _ _)
    rw [setL_nil]
    exact heap_alloc_new w _
  · show AtrF _ _ none (setL [])
    rw [setL_nil]
    exact (AtrS.empty _ w.heap.size).f (fun k h1 h2 => ⟨h1, h2⟩)
set_option maxHeartbeats 4000000 in
theorem newEntry_any (w : World) (id sp : Int) (nm : ByteArray) (t : TokM) (a : Option Addr) (cap : Nat) (hl : AttrsIn w a t.attrs) (hn : t.attrs.length ≤ 2513169434916) :
    Calls Tryz.prog 66 #[.int .i64 id, .agg #[.int .i64 sp, .string nm], .agg (t.cells (.slice a t.attrs.length cap)).toArray] w fun e w' => ∃ b, e = .returned (.pointer (some ⟨b, 0, none⟩)) ∧ EntIn w' (fun k => w.heap.size ≤ k ∧ k < w'.heap.size) b ⟨id, sp, nm, t⟩ ∧ Below w.heap.size w w' := by
  have HOT := hide (fun W (hb : Below w.heap.size w W) => ownTok_any W t a cap (hl.below hb) hn)
  have HSO := hide (fun W (hb : Below w.heap.size w W) => setOf_any W a cap t.attrs (hl.below hb) hn)
  have HNN := hide hn
  clear hl hn
  obtain ⟨t0, t1, t2, t3, t4, t5, t6, t7, ta⟩ := t
  simp only [TokM.cells] at *
  have hcc : ∀ W', Below ((w.alloc (.cells #[.int .i64 sp, .string nm] 123)).alloc (.cells #[.int .i64 t0, .string t1, .string t2, .string t3, .int .i64 t4, .bool t5, .int .i32 t6, .bool t7, .slice a ta.length cap] 52)).heap.size ((w.alloc (.cells #[.int .i64 sp, .string nm] 123)).alloc (.cells #[.int .i64 t0, .string t1, .string t2, .string t3, .int .i64 t4, .bool t5, .int .i32 t6, .bool t7, .slice a ta.length cap] 52)) W' → (W'.cell? ⟨w.heap.size, 0, none⟩ = some (.int .i64 sp) ∧ W'.cell? ⟨w.heap.size, 1, none⟩ = some (.string nm) ∧ W'.cell? ⟨w.heap.size + 1, 0, none⟩ = some (.int .i64 t0) ∧ W'.cell? ⟨w.heap.size + 1, 1, none⟩ = some (.string t1) ∧ W'.cell? ⟨w.heap.size + 1, 2, none⟩ = some (.string t2) ∧ W'.cell? ⟨w.heap.size + 1, 3, none⟩ = some (.string t3) ∧ W'.cell? ⟨w.heap.size + 1, 4, none⟩ = some (.int .i64 t4) ∧ W'.cell? ⟨w.heap.size + 1, 5, none⟩ = some (.bool t5) ∧ W'.cell? ⟨w.heap.size + 1, 6, none⟩ = some (.int .i32 t6) ∧ W'.cell? ⟨w.heap.size + 1, 7, none⟩ = some (.bool t7) ∧ W'.cell? ⟨w.heap.size + 1, 8, none⟩ = some (.slice a ta.length cap)) ∧ Below w.heap.size w W' := by
    intro W' hb
    obtain ⟨h1, h2, h3⟩ := two_new w _ _ W' hb
    obtain ⟨d0, d1, d2, d3, d4, d5, d6, d7, d8, _⟩ := nine h2
    exact ⟨⟨cell_of_row _ _ 0 _ _ _ h1, cell_of_row _ _ 1 _ _ _ h1, d0, d1, d2, d3, d4, d5, d6, d7, d8⟩, h3⟩
  have HCC := hide hcc
  clear hcc
  go_enter Tryz.func66, Tryz.ntmps66
  go_wp2_with fail
  go_region_held3 (fun W' => W'.cell? ⟨w.heap.size, 0, none⟩ = some (.int .i64 sp) ∧ W'.cell? ⟨w.heap.size, 1, none⟩ = some (.string nm) ∧ W'.cell? ⟨w.heap.size + 1, 0, none⟩ = some (.int .i64 t0) ∧ W'.cell? ⟨w.heap.size + 1, 1, none⟩ = some (.string t1) ∧ W'.cell? ⟨w.heap.size + 1, 2, none⟩ = some (.string t2) ∧ W'.cell? ⟨w.heap.size + 1, 3, none⟩ = some (.string t3) ∧ W'.cell? ⟨w.heap.size + 1, 4, none⟩ = some (.int .i64 t4) ∧ W'.cell? ⟨w.heap.size + 1, 5, none⟩ = some (.bool t5) ∧ W'.cell? ⟨w.heap.size + 1, 6, none⟩ = some (.int .i32 t6) ∧ W'.cell? ⟨w.heap.size + 1, 7, none⟩ = some (.bool t7) ∧ W'.cell? ⟨w.heap.size + 1, 8, none⟩ = some (.slice a ta.length cap)) (first | exact ((unhide HCC) _ (unhide HB2)).1 | exact ((unhide HCC) _ (unhide HB1)).1 | exact ((unhide HCC) _ (Below.refl _ ((w.alloc (.cells #[.int .i64 sp, .string nm] 123)).alloc (.cells #[.int .i64 t0, .string t1, .string t2, .string t3, .int .i64 t4, .bool t5, .int .i32 t6, .bool t7, .slice a ta.length cap] 52)))).1 | exact ((unhide HCC) _ ((unhide HB2).alloc (unhide HB2).size _)).1) (first
    | (go_at_call 56; refine ((unhide HOT) _ (by first | exact ((unhide HCC) _ (Below.refl _ _)).2 | exact ((unhide HCC) _ (Below.refl _ _).drew).2)).mono ?_; rintro e w1 ⟨ao, ac, rfl, ha, hb⟩; have HA := hide ha; have HB1 := hide (show Below ((w.alloc (.cells #[.int .i64 sp, .string nm] 123)).alloc (.cells #[.int .i64 t0, .string t1, .string t2, .string t3, .int .i64 t4, .bool t5, .int .i32 t6, .bool t7, .slice a ta.length cap] 52)).heap.size ((w.alloc (.cells #[.int .i64 sp, .string nm] 123)).alloc (.cells #[.int .i64 t0, .string t1, .string t2, .string t3, .int .i64 t4, .bool t5, .int .i32 t6, .bool t7, .slice a ta.length cap] 52)) w1 from ⟨hb.os, hb.tape, hb.output, hb.size, hb.block⟩); clear ha hb)
    | (go_at_call 114; refine ((unhide HSO) _ (by first | exact ((unhide HCC) _ (unhide HB1)).2 | exact ((unhide HCC) _ (unhide HB1).drew).2)).mono ?_; rintro e w2 ⟨so, sc, rfl, ha, hb⟩; have HA2 := hide ha; have HB12 := hide (show Below w1.heap.size w1 w2 from ⟨hb.os, hb.tape, hb.output, hb.size, hb.block⟩); have HB2 := hide ((unhide HB1).trans ((unhide HB12).mono (unhide HB1).size)); clear ha hb))
  all_goals go_wp2
  all_goals go_ret
  all_goals have hw2 := ((unhide HCC) _ (unhide HB2)).2
  all_goals have hs1 := (unhide HB12).size
  all_goals have hs0 := ((unhide HCC) _ (unhide HB1)).2.size
  all_goals have hb3 := below_newAc w2 (.cells #[.int .i64 id, .int .i64 sp, .string nm, .int .i64 t0, .string t1, .string t2, .string t3, .int .i64 t4, .bool t5, .int .i32 t6, .bool t7, .slice ao ta.length ac, .slice so (setL ta).length sc] 125)
  all_goals have A1 := ((unhide HA).below (unhide HB12)).below hb3
  all_goals have A2 := (unhide HA2).below hb3
  all_goals exact ⟨w2.heap.size, rfl, ⟨⟨hw2.size, by simp⟩, unhide HNN, ao, ac, so, sc, heap_alloc_new w2 _, A1.f (fun k h1 h2 => ⟨by simp at h1; omega, h2⟩), A2.f (fun k h1 h2 => ⟨by omega, h2⟩)⟩, hw2.trans (hb3.mono hw2.size)⟩
end Go.Proofs.YtkakncngkmoegaaGreat
