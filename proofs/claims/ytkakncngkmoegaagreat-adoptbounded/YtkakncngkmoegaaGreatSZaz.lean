/-
  Package active: the last marker; whether two entries are alike. Package active: the ranges over functions: elements, behindMarker. Package active: a list in memory; where an element's entry stands. Package active: the entries behind the last marker, from the last one back; the last element of a name; how many are alike.
-/
import Derived.Test.YtkakncngkmoegaaGreatSZay
import Derived.RangeFuncNested
import Derived.RangeFuncBound
import Derived.RangeFuncCalls
import Derived.RangeFuncLeaves
import Derived.RangeFuncBox
import Derived.Shelf.RegionOpen
import Derived.OwnWalkIn
import Derived.TacticsInMore
import Derived.LoopNIn
import Derived.LoopIn
namespace Go.Proofs.YtkakncngkmoegaaGreat
open Go.RowKit Go.Sort

/-- The place of the last marker among the first ones; -1. -/
def lastM (es : List EntM) : Nat → Int
  | 0 => -1
  | i + 1 => match es[i]? with
    | some x => if x.node = -1 then (i : Int) else lastM es i
    | none => -1

section
variable {w : World} {base bW : Nat} {F : Nat → Prop} {v : Value} {ps : List Nat} {es : List EntM}

end

def eqL : List AttrM → List AttrM → Bool
  | [], [] => true
  | x :: a, y :: b => eqA x y && eqL a b
  | _, _ => false
theorem eqL_iff : ∀ {l m : List AttrM}, eqL l m = true ↔ l = m
  | [], [] => by simp [eqL]
  | [], _ :: _ => by simp [eqL]
  | _ :: _, [] => by simp [eqL]
  | x :: a, y :: b => by rw [eqL, Bool.and_eq_true, eqA_iff, eqL_iff]; simp
theorem eqL_no {l m : List AttrM} {j : Nat} {x y : AttrM} (hx : l[j]? = some x) (hy : m[j]? = some y) (h : eqA x y = false) : eqL l m = false := by
  rw [← Bool.not_eq_true, eqL_iff]
  intro e
  subst e
  rw [hx] at hy
  cases hy
  exact (eqA_no.1 h) rfl
theorem eqL_yes {l m : List AttrM} (hl : l.length = m.length) (h : ∀ (j : Nat) x y, l[j]? = some x → m[j]? = some y → eqA x y = true) : eqL l m = true := by
  rw [eqL_iff]
  apply List.ext_getElem?
  intro j
  by_cases hj : j < l.length
  · have hx : l[j]? = some l[j] := List.getElem?_eq_getElem hj
    have hy : m[j]? = some (m[j]'(by omega)) := List.getElem?_eq_getElem (by omega)
    rw [hx, hy, eqA_iff.1 (h j _ _ hx hy)]
  · rw [List.getElem?_eq_none (by omega), List.getElem?_eq_none (by omega)]

set_option maxHeartbeats 4000000 in
set_option maxRecDepth 10000 in
theorem equal_any {w : World} (a b : Option Addr) (ca cb : Nat) (l m : List AttrM) (ha : AttrsIn w a l) (hb : AttrsIn w b m) (hl : l.length ≤ 2513169434916) :
    Calls Tryz.prog 150 #[.slice a l.length ca, .slice b m.length cb] w fun e w' => e = .returned (.bool (eqL l m)) ∧ ∃ q, w' = w.drewN q := by
  have HA := hide ha
  have HB := hide hb
  clear ha hb
  by_cases hlen : l.length = m.length
  · have hzz : ((l.length : Int) != (m.length : Int)) = false := by simp [hlen]
    have hlz : (l.length : Int) ≤ 2513169434916 := by omega
    have HL := hide hlen
    clear hlen hl
    go_enter Tryz.func150, Tryz.ntmps150
    go_wp2
    go_loopg [5, 13] l.length (fun k _ s wx => ∃ j : Nat, s = .int .i64 j ∧ j + k = l.length ∧ (∃ q, wx = w.drewN q) ∧ ∀ (i : Nat) x y, i < j → l[i]? = some x → m[i]? = some y → eqA x y = true)
    case atStart => exact ⟨0, rfl, by omega, ⟨0, rfl⟩, fun i x y h => by omega⟩
    case round =>
      obtain ⟨j, rfl, hjk, ⟨q, hq0⟩, hpre⟩ := hrel
      have hbw : Below w.heap.size w wr := by rw [hq0]; exact below_dnAc (Below.refl _ _) q
      have HP := hide hpre
      have HQ := hide hq0
      clear hpre hq0
      by_cases hj : j < l.length
      · obtain ⟨x, hx⟩ : ∃ x, l[j]? = some x := ⟨_, List.getElem?_eq_getElem hj⟩
        obtain ⟨y, hy⟩ : ∃ y, m[j]? = some y := ⟨_, List.getElem?_eq_getElem (by rw [← unhide HL]; exact hj)⟩
        have hjz : (j : Int) < (l.length : Int) := by omega
        have hjm : (j : Int) < (m.length : Int) := by rw [← unhide HL]; exact hjz
        obtain ⟨ba, oa, rfl, a0, a1, a2, a3⟩ := ((unhide HA).below hbw).cells j _ hx
        obtain ⟨bb, ob, rfl, b0, b1, b2, b3⟩ := ((unhide HB).below hbw).cells j _ hy
        have HX := hide hx
        have HY := hide hy
        clear hx hbw hy
        cases he : eqA x y with
        | true =>
          have HE := hide he
          have hg := guardA
          have hq := fun W => neqAttr x y W
          rw [he] at hq
          clear he
          go_wp2
          go_quiet (fail)
          go_wp2
          go_roundg (gk - 1)
          case measure => omega
          case rel =>
            refine ⟨j + 1, by go_num, by omega, ⟨q + nq, by rw [unhide HQ, World.drewN_drewN]⟩, fun i x' y' hi hx' hy' => ?_⟩
            by_cases e : i = j
            · subst e; rw [unhide HX] at hx'; rw [unhide HY] at hy'; cases hx'; cases hy'; exact unhide HE
            · exact (unhide HP) i x' y' (by omega) hx' hy'
        | false =>
          have HE := hide he
          have hg := guardA
          have hq := fun W => neqAttr x y W
          rw [he] at hq
          clear he
          go_wp2
          go_quiet (fail)
          go_wp2
          go_ret
          refine ⟨?_, ⟨q + nq, by rw [unhide HQ, World.drewN_drewN]⟩⟩
          rw [eqL_no (unhide HX) (unhide HY) (unhide HE)]
          rfl
      · have hjz : ¬ (j : Int) < (l.length : Int) := by omega
        go_wp2
        go_ret
        refine ⟨?_, ⟨q, unhide HQ⟩⟩
        rw [eqL_yes (unhide HL) (fun i x y hx hy => (unhide HP) i x y (by have := (List.getElem?_eq_some_iff.1 hx).1; omega) hx hy)]
        rfl
  · have hzz : ((l.length : Int) != (m.length : Int)) = true := by rw [bne_iff_ne]; omega
    have HL := hide hlen
    clear hlen hl
    go_enter Tryz.func150, Tryz.ntmps150
    go_wp2
    go_ret
    refine ⟨?_, 0, rfl⟩
    have : eqL l m = false := by
      rw [← Bool.not_eq_true, eqL_iff]
      intro e
      exact (unhide HL) (by rw [e])
    rw [this]; rfl

/-- Whether two entries are alike. -/
def kinB (s t : Int) (n m : ByteArray) : Bool := decide (s = t) && decide (n = m)
def alikeM (x y : EntM) : Bool := kinB x.sp y.sp x.nm y.nm && eqL (setL x.tok.attrs) (setL y.tok.attrs)

theorem eqlKin (s t : Int) (n m : ByteArray) (w : World) : (binOp .eql 123 (.agg #[.int .i64 s, .string n]) (.agg #[.int .i64 t, .string m])).run Tryz.prog w = .ok (.bool (kinB s t n m)) w := by
  have u3 := Tryz.underlying3
  have a3 := Tryz.isAgg3
  have z3 := Tryz.sizeOf3
  have u9 := Tryz.underlying9
  have a9 := Tryz.isAgg9
  have z9 := Tryz.sizeOf9
  have hS : Tryz.prog.underlying 123 = some (.struct (Tryz.prog.fieldsOf 123)) := by kernel_rfl
  have hp : Tryz.prog.stoodInHeld 123 = false := by kernel_rfl
  have dk : ∀ x y : ByteArray, decide (x = y) = decide (x.toList = y.toList) := fun x y => decide_eq_decide.2 ⟨fun e => by rw [e], bytes_ext⟩
  rw [run_eql_struct, show (10000 : Nat) = 9999 + 1 from rfl, run_equalIn_agg w 9999 123 _ _ hS hp]
  simp only [Program.fieldsOf, Tryz.underlying123]
  go_simp
  unfold kinB
  simp only [dk]
  by_cases h0 : s = t <;> by_cases h1 : n.toList = m.toList <;> simp [h0, h1]
theorem guardK : Tryz.prog.eqGuardType Tryz.prog.depth 123 = false := by kernel_rfl

set_option maxHeartbeats 4000000 in
theorem alike_any {w : World} {F : Nat → Prop} {b c : Nat} {x y : EntM} (hx : EntIn w F b x) (hy : EntIn w F c y) :
    Calls Tryz.prog 116 #[.pointer (some ⟨b, 0, none⟩), .pointer (some ⟨c, 0, none⟩)] w fun e w' => e = .returned (.bool (alikeM x y)) ∧ ∃ q, w' = w.drewN q := by
  obtain ⟨ao, ac, so, sc, h1, _, h2⟩ := hx.lies
  obtain ⟨ao', ac', so', sc', k1, _, k2⟩ := hy.lies
  have a1 : w.cell? ⟨b, 1, none⟩ = some (.int .i64 x.sp) := cell_of_row _ _ 1 _ _ _ h1
  have a2 : w.cell? ⟨b, 2, none⟩ = some (.string x.nm) := cell_of_row _ _ 2 _ _ _ h1
  have a3 : w.cell? ⟨b, 12, none⟩ = some (.slice so (setL x.tok.attrs).length sc) := cell_of_row _ _ 12 _ _ _ h1
  have b1 : w.cell? ⟨c, 1, none⟩ = some (.int .i64 y.sp) := cell_of_row _ _ 1 _ _ _ k1
  have b2 : w.cell? ⟨c, 2, none⟩ = some (.string y.nm) := cell_of_row _ _ 2 _ _ _ k1
  have b3 : w.cell? ⟨c, 12, none⟩ = some (.slice so' (setL y.tok.attrs).length sc') := cell_of_row _ _ 12 _ _ _ k1
  have hfew : (setL x.tok.attrs).length ≤ 2513169434916 := by
    have e1 := compA_len (sortA x.tok.attrs)
    rw [sortA_len] at e1
    have e2 := hx.few
    unfold setL
    omega
  have HE := hide (fun q => equal_any (w := w.drewN q) so so' sc sc' (setL x.tok.attrs) (setL y.tok.attrs) (h2.ins.below (below_dnAc (Below.refl _ _) q)) (k2.ins.below (below_dnAc (Below.refl _ _) q)) hfew)
  have hg := guardK
  have hk := fun W => eqlKin x.sp y.sp x.nm y.nm W
  have hund : undef = Value.tuple #[] := rfl
  unfold alikeM
  generalize setL x.tok.attrs = sx at *
  generalize setL y.tok.attrs = sy at *
  obtain ⟨xn, xs, xm, xt⟩ := x
  obtain ⟨yn, ys, ym, yt⟩ := y
  simp only at *
  clear hx hy h1 k1 h2 k2 hfew
  cases hkk : kinB xs ys xm ym with
  | false =>
    rw [hkk] at hk
    clear hkk
    go_enter Tryz.func116, Tryz.ntmps116
    go_wp2_with fail
    first | go_quiet (fail) | fail
    go_wp2
    go_ret
    exact ⟨rfl, _, rfl⟩
  | true =>
    rw [hkk] at hk
    clear hkk
    go_enter Tryz.func116, Tryz.ntmps116
    go_wp2_with fail
    go_quiet (first | (go_at_call 150; exact Calls.quiet_of ((unhide HE) _)))
    go_wp2
    go_ret
    exact ⟨rfl, _, rfl⟩
end Go.Proofs.YtkakncngkmoegaaGreat

namespace Go.Proofs.YtkakncngkmoegaaGreat
open Go.RowKit Go.Sort Go.Shelf
attribute [local go_sem] Oper.semAt_some

/-- The blocks of P lie as they lay. -/
def KeepPAc (P : Nat → Prop) (W W' : World) : Prop := ∀ k, P k → W'.heap[k]? = W.heap[k]?
theorem keepP_tAc {P : Nat → Prop} {A B C : World} (h : KeepPAc P A B) (k : KeepPAc P B C) : KeepPAc P A C := fun i hi => (k i hi).trans (h i hi)
theorem keepP_bAc {P : Nat → Prop} {w : World} (hP : ∀ k, P k → k < w.heap.size) (W : World) (l : Nat) (o o' : Obj) (hl : w.heap.size ≤ l) (_ : W.heap[l]? = some o) (_ : o.isCells = false) (_ : o.isWalk = false) : KeepPAc P W (W.putObj l o') := by
  intro k hk
  have := hP k hk
  have hne : l ≠ k := by omega
  simp [World.putObj, hne]

theorem RowMAc.keepP {w w' : World} {base bW : Nat} {F P : Nat → Prop} {v : Value} {ps : List Nat} {es : List EntM} (h : RowMAc w base bW F v ps es) (hP : ∀ k, F k → P k) (hk : KeepPAc P w w') : RowMAc w' base bW F v ps es :=
  ⟨(hk bW (hP _ h.fb)).trans h.box, ownsRow_kept h.own (fun k e => hk k (hP k (h.fv k e))), h.len, h.nodup, fun i b x hb hx => (h.ents i b x hb hx).keep (hk b (hP b (h.ents i b x hb hx).fb)) (fun k _ hf _ => hk k (hP k hf)), h.fb, h.fv, fun k hf => ⟨(h.lt k hf).1, by
    have e := hk k (hP k hf)
    rw [Array.getElem?_eq_getElem (h.lt k hf).2] at e
    exact (Array.getElem?_eq_some_iff.1 e).1⟩⟩

/-- The elements of the first entries, with their places. -/
def pairsN (es : List EntM) : Nat → List (Nat × Int)
  | 0 => []
  | n + 1 => pairsN es n ++ (match es[n]? with | some x => if x.node = -1 then [] else [(n, x.node)] | none => [])
theorem pairsN_pre (es : List EntM) : ∀ {m n : Nat}, m ≤ n → pairsN es m <+: pairsN es n
  | m, 0, h => by obtain rfl : m = 0 := by omega
                  exact List.prefix_rfl
  | m, n + 1, h => by
    by_cases e : m = n + 1
    · subst e; exact List.prefix_rfl
    · exact (pairsN_pre es (m := m) (n := n) (by omega)).trans (List.prefix_append _ _)

set_option maxRecDepth 100000 in
set_option maxHeartbeats 1000000 in
theorem elem1_in {base bW : Nat} {F : Nat → Prop} {v : Value} {ps : List Nat} {es : List EntM} (n : Nat) (hn : 1 ≤ n) (l Ba : Nat) (P : Nat → Prop) (hPf : ∀ k, F k → P k) (J Jx : List (Nat × Int) → World → Prop)
    (hY : ∀ pre x W, J pre W → pre.length < (pairsN es es.length).length → YieldAt Fence.wide (n - 1) Tryz.prog l #[.int .i64 ((x : Nat × Int).1 : Int), .int .i64 x.2] W fun e W' =>
      (e = .returned (.bool true) ∧ J (pre ++ [x]) W' ∧ KeepPAc P W W') ∨ (e = .returned (.bool false) ∧ Jx (pre ++ [x]) W'))
    (W : World) (hBa : W.heap[Ba]? = some (.cells #[.pointer (some ⟨bW, 0, none⟩)] 117 (0, 0))) (har : RowMAc W base bW F v ps es) (hl : es.length < 1000000000000)
    (h0 : J [] W) :
    CallsIn Fence.wide n Tryz.prog 153 #[.func (.yield l) #[] #[], .pointer (some ⟨Ba, 0, none⟩)] W fun e W' => (∃ v, e = .returned v) ∧
      ((∃ ys, ys = pairsN es es.length ∧ J ys W') ∨ (∃ pre, pre <+: pairsN es es.length ∧ Jx pre W')) := by
  have hcB := cell_of_one hBa
  have hcW := har.cell
  obtain ⟨va, vc, hv⟩ : ∃ va vc, v = .slice va es.length vc := by
    have := har.len
    rcases har.val with ⟨e, e2⟩ | ⟨g, cap, e⟩
    · subst e2; simp at this; exact ⟨none, 0, by rw [e, ← this]⟩
    · exact ⟨_, _, by rw [e, this]⟩
  subst hv
  refine callsIn_of_wp Tryz.func153 rfl trivial ?_ rfl
  simp only [Tryz.ntmps153, List.size_toArray, List.length_cons, List.length_nil, Nat.reduceAdd, Nat.reduceSub, Array.replicate_succ, Array.replicate_zero, List.push_toArray, List.append_toArray, List.nil_append, List.cons_append]
  have HBA := hide hBa
  have HAR := hide har
  have HL := hide hl
  clear hBa har hl
  gi_wp2
  gi_loopw [3, 4, 10] (fun _ _ p wr => ∃ m : Nat, p = .int .i64 (m : Int) ∧ m ≤ es.length ∧ J (pairsN es m) wr ∧ RowMAc wr base bW F (.slice va es.length vc) ps es)
    (fun _ _ p _ => es.length - (intOf p).toNat)
  case atStart => exact ⟨0, rfl, Nat.zero_le _, h0, unhide HAR⟩
  case round =>
    obtain ⟨m, rfl, hm, hJ, hrow⟩ := hrel
    have HJ := hide hJ
    have HR := hide hrow
    clear hJ hrow
    by_cases hme : m = es.length
    · subst hme
      have hz : ¬ (es.length : Int) < (es.length : Int) := by omega
      gi_wp2
      go_end0
      exact ⟨⟨_, rfl⟩, .inl (unhide HJ)⟩
    · have hmz : (m : Int) < (es.length : Int) := by omega
      have hm0 : (0 : Int) ≤ (m : Int) := by omega
      obtain ⟨x, hx⟩ : ∃ x, es[m]? = some x := ⟨_, List.getElem?_eq_getElem (by omega)⟩
      obtain ⟨g, cap, b, e, hg, hb, he⟩ := (unhide HR).at hx
      cases e
      unfold ptrV at hg
      have HM := hide (isMarker_any he)
      have HS : Hid (pairsN es (m + 1) = pairsN es m ++ (if x.node = -1 then [] else [(m, x.node)])) := hide (by rw [pairsN, hx])
      obtain ⟨ao, ac, so, sc, hblk, _⟩ := he.lies
      have hcn : wr.cell? ⟨b, 0, none⟩ = some (.int .i64 x.node) := cell_of_row _ _ 0 _ _ _ hblk
      clear hx hb he hblk
      cases hmk : (x.node == -1) with
      | true =>
        have e1 : x.node = -1 := eq_of_beq hmk
        rw [hmk] at HM
        rw [if_pos e1, List.append_nil] at HS
        clear hmk e1
        gi_wp2_with fail
        refine ⟨trivial, (callsIn_wide.2 (unhide HM)).mono ?_⟩
        rintro e w1 ⟨rfl, rfl⟩
        have hwr : IntKind.i64.wrap ((m : Int) + 1) = (m : Int) + 1 := by rw [IntKind.wrap_i64]; have := unhide HL; omega
        gi_wp2
        refine ⟨fun _ _ => trivial, ?_⟩
        gi_wp2
        go_roundw
        case rel => exact ⟨m + 1, by go_num, by omega, by rw [unhide HS]; exact unhide HJ, unhide HR⟩
        case measure =>
          have hi1 : (intOf (.int .i64 ((m : Int) + 1))).toNat = m + 1 := by simp only [intOf]; omega
          have hi2 : (intOf (.int .i64 (m : Int))).toNat = m := by simp only [intOf]; omega
          rw [hi1, hi2]
          omega
      | false =>
        have e1 : ¬ x.node = -1 := ne_of_beq_false hmk
        rw [hmk] at HM
        rw [if_neg e1] at HS
        clear hmk e1
        have hlen : (pairsN es m).length < (pairsN es es.length).length := by
          have h1 := (pairsN_pre es (m := m + 1) (n := es.length) (by omega)).length_le
          rw [unhide HS, List.length_append] at h1
          simp at h1
          omega
        have hpre9 : pairsN es (m + 1) <+: pairsN es es.length := pairsN_pre es (by omega)
        have HPRE := hide hpre9
        obtain ⟨fn, tmps, assign, body, hy, hR⟩ := hY (pairsN es m) (m, x.node) wr (unhide HJ) hlen
        clear hlen hpre9
        gi_wp2_with fail
        refine ⟨trivial, (callsIn_wide.2 (unhide HM)).mono ?_⟩
        rintro e w1 ⟨rfl, rfl⟩
        gi_wp2
        refine hR.mono ?_
        rintro e W3 (⟨rfl, hJ3, hk3⟩ | ⟨rfl, hJx3⟩)
        · have har3 := (unhide HR).keepP hPf hk3
          have HA3 := hide har3
          have HJ3 := hide hJ3
          have hwr : IntKind.i64.wrap ((m : Int) + 1) = (m : Int) + 1 := by rw [IntKind.wrap_i64]; have := unhide HL; omega
          clear har3 hJ3
          gi_wp2
          go_roundw
          case rel => exact ⟨m + 1, by go_num, by omega, by rw [unhide HS]; exact unhide HJ3, unhide HA3⟩
          case measure =>
            have hi1 : (intOf (.int .i64 ((m : Int) + 1))).toNat = m + 1 := by simp only [intOf]; omega
            have hi2 : (intOf (.int .i64 (m : Int))).toNat = m := by simp only [intOf]; omega
            rw [hi1, hi2]
            omega
        · gi_wp2
          refine bodyPost_ret (results_none rfl _ _ _) rfl ?_
          exact ⟨⟨_, rfl⟩, .inr ⟨pairsN es m ++ [(m, x.node)], by rw [← unhide HS]; exact unhide HPRE, hJx3⟩⟩
end Go.Proofs.YtkakncngkmoegaaGreat

namespace Go.Proofs.YtkakncngkmoegaaGreat
open Go.RowKit Go.Sort Go.Shelf
attribute [local go_sem] Oper.semAt_some

/-- A list at block bL of the arena at bA; its row in the blocks F. -/
structure LiM (w : World) (base bL bA bW : Nat) (F : Nat → Prop) (v : Value) (ps : List Nat) (es : List EntM) : Prop where
  box : w.heap[bL]? = some (.cells #[.pointer (some ⟨bA, 0, none⟩), .pointer (some ⟨bW, 0, none⟩)] 119 (0, 0))
  row : RowMAc w base bW F v ps es
  nl : ¬ F bL
  lo : base ≤ bL
def LiS (w : World) (base bL bA : Nat) (es : List EntM) (F : Nat → Prop) : Prop := ∃ bW v ps R, LiM w base bL bA bW R v ps es ∧ ∀ k, F k ↔ (k = bL ∨ R k)
def UpdL (F : Nat → Prop) (w w' : World) (base bL bA : Nat) (es : List EntM) : Prop := ∃ F', LiS w' base bL bA es F' ∧ Mod F w w' ∧ ∀ k, F' k → F k ∨ w.heap.size ≤ k

section
variable {w w' : World} {base bL bA bW : Nat} {F G : Nat → Prop} {v : Value} {ps : List Nat} {es : List EntM}
theorem LiM.mod (h : LiM w base bL bA bW F v ps es) (hm : Mod G w w') (hG : ∀ k, F k → ¬ G k) (hL : ¬ G bL) : LiM w' base bL bA bW F v ps es :=
  ⟨(hm.block bL (lt_of_block h.box) hL).trans h.box, h.row.mod hm hG, h.nl, h.lo⟩
theorem LiM.below (h : LiM w base bL bA bW F v ps es) (hb : Below w.heap.size w w') : LiM w' base bL bA bW F v ps es := h.mod (Mod.of_below (F := fun _ => False) hb) (fun _ _ e => e) (fun e => e)
theorem LiS.mod (h : LiS w base bL bA es F) (hm : Mod G w w') (hG : ∀ k, F k → ¬ G k) : LiS w' base bL bA es F := by
  obtain ⟨bW, v, ps, R, h, hF⟩ := h
  exact ⟨bW, v, ps, R, h.mod hm (fun k hk => hG k ((hF k).2 (.inr hk))) (hG _ ((hF _).2 (.inl rfl))), hF⟩
theorem LiS.below (h : LiS w base bL bA es F) (hb : Below w.heap.size w w') : LiS w' base bL bA es F := h.mod (Mod.of_below (F := fun _ => False) hb) (fun _ _ e => e)
theorem LiS.lt (h : LiS w base bL bA es F) {k : Nat} (hk : F k) : base ≤ k ∧ k < w.heap.size := by
  obtain ⟨bW, v, ps, R, h, hF⟩ := h
  rcases (hF k).1 hk with e | e
  · subst e; exact ⟨h.lo, lt_of_block h.box⟩
  · exact h.row.lt k e
/-- What a method of the row makes of the list. -/
theorem LiM.upd (h : LiM w base bL bA bW F v ps es) {FL : Nat → Prop} (hF : ∀ k, FL k ↔ (k = bL ∨ F k)) {es2 : List EntM} (hu : UpdWAc F w w' base bW es2) : UpdL FL w w' base bL bA es2 := by
  obtain ⟨F', ⟨v', ps', h1⟩, h2, h3⟩ := hu
  have hn : ¬ F' bL := fun e => by
    rcases h3 _ e with e | e
    · exact h.nl e
    · have := lt_of_block h.box; omega
  refine ⟨fun k => k = bL ∨ F' k, ⟨bW, v', ps', F', ⟨(h2.block bL (lt_of_block h.box) h.nl).trans h.box, h1, hn, h.lo⟩, fun _ => Iff.rfl⟩, h2.mono (fun k _ e => (hF k).2 (.inr e)), ?_⟩
  rintro k (e | e)
  · exact .inl ((hF k).2 (.inl e))
  · exact (h3 k e).imp (fun e => (hF k).2 (.inr e)) id
theorem UpdL.after {w1 : World} (hb : Below w.heap.size w w1) (h : UpdL F w1 w' base bL bA es) : UpdL F w w' base bL bA es := by
  obtain ⟨F', h1, h2, h3⟩ := h
  exact ⟨F', h1, (Mod.of_below hb).trans h2, fun k hk => (h3 k hk).imp id (fun h => Nat.le_trans hb.size h)⟩
theorem LiS.upd (h : LiS w base bL bA es F) (hb : Below w.heap.size w w') : UpdL F w w' base bL bA es := ⟨F, h.below hb, Mod.of_below hb, fun _ hk => .inl hk⟩
theorem LiM.cells (h : LiM w base bL bA bW F v ps es) : w.cell? ⟨bL, 0, none⟩ = some (.pointer (some ⟨bA, 0, none⟩)) ∧ w.cell? ⟨bL, 1, none⟩ = some (.pointer (some ⟨bW, 0, none⟩)) :=
  ⟨cell_of_row _ _ 0 _ _ _ h.box, cell_of_row _ _ 1 _ _ _ h.box⟩
theorem lmade_any (h : LiM w base bL bA bW F v ps es) : Calls Tryz.prog 53 #[.pointer (some ⟨bL, 0, none⟩)] w fun e w' => e = .returned (.bool true) ∧ w = w' := by
  obtain ⟨h0, h1⟩ := h.cells
  clear h
  go_enter Tryz.func53, Tryz.ntmps53
  go_wp2
  go_ret
  exact ⟨rfl, rfl⟩
theorem llen_any (h : LiM w base bL bA bW F v ps es) : Calls Tryz.prog 16 #[.pointer (some ⟨bL, 0, none⟩)] w fun e w' => e = .returned (.int .i64 es.length) ∧ w = w' := by
  obtain ⟨h0, h1⟩ := h.cells
  have HM := hide (lmade_any h)
  have HS := hide (rsize_any h.row)
  clear h
  go_enter Tryz.func16, Tryz.ntmps16
  go_wp2_with (first | (go_at_call 53; refine (unhide HM).mono ?_; rintro e w1 ⟨rfl, rfl⟩) | (go_at_call 54; refine (unhide HS).mono ?_; rintro e w1 ⟨rfl, rfl⟩))
  go_ret
  exact ⟨rfl, rfl⟩
end

theorem elements_in (n : Nat) (bW : Nat) (w : World) :
    CallsIn Fence.wide n Tryz.prog 120 #[.pointer (some ⟨bW, 0, none⟩)] w fun e w' => e = .returned (.func (.func 153) #[] #[.pointer (some ⟨w.heap.size, 0, none⟩)]) ∧ w' = w.alloc (.cells #[.pointer (some ⟨bW, 0, none⟩)] 117) := by
  refine callsIn_of_wp Tryz.func120 rfl trivial ?_ rfl
  simp only [Tryz.ntmps120, List.size_toArray, List.length_cons, List.length_nil, Nat.reduceAdd, Nat.reduceSub, Array.replicate_succ, Array.replicate_zero, List.push_toArray, List.append_toArray, List.nil_append, List.cons_append]
  gi_wp2
  go_ret
  exact ⟨rfl, rfl⟩

theorem elem_stops {base bW : Nat} {F : Nat → Prop} {v : Value} {ps : List Nat} {es : List EntM} (n : Nat) (hn : 1 ≤ n) (Ba : Nat) (P : Nat → Prop) (hPf : ∀ k, F k → P k)
    (w : World) (hBa : w.heap[Ba]? = some (.cells #[.pointer (some ⟨bW, 0, none⟩)] 117 (0, 0))) (har : RowMAc w base bW F v ps es) (hl : es.length < 1000000000000) :
    SeqStopsK Fence.wide n Tryz.prog 153 #[.pointer (some ⟨Ba, 0, none⟩)] (fun x : Nat × Int => #[Value.int .i64 (x.1 : Int), .int .i64 x.2]) (KeepPAc P) (fun ys => ys = pairsN es es.length) (fun pre => pre <+: pairsN es es.length) (pairsN es es.length).length w := fun l J Jx W hW _ _ hY h0 =>
  elem1_in n hn l Ba P hPf J Jx hY W ((hW.block Ba (lt_of_block hBa)).trans hBa) (har.below hW) hl h0

theorem cell_of_box_lAc {W : World} {B : Nat} {v : Value} {t : TypeId} (h : W.heap[B]? = some (.cells #[v] t (0, 0))) : W.cell? ⟨B, 0, none⟩ = some v ∧ W.frozen? ⟨B, 0, none⟩ = false := by
  constructor <;> simp [World.cell?, World.frozen?, h]
theorem cell_new_lAc (W : World) (v : Value) (t : TypeId) : (W.alloc (.cells #[v] t)).cell? ⟨W.heap.size, 0, none⟩ = some v ∧ (W.alloc (.cells #[v] t)).frozen? ⟨W.heap.size, 0, none⟩ = false :=
  cell_of_box_lAc (World.alloc_heap_new W _)
theorem cell_alloc_lAc {W : World} {a : Addr} {v : Value} (o : Obj) (h : W.cell? a = some v) : (W.alloc o).cell? a = some v := cell_kept h (World.grownBy_alloc W o none) (fun r e => by cases e)
theorem frozen_alloc_lAc {W : World} {a : Addr} {v : Value} (o : Obj) (h : W.cell? a = some v) (hf : W.frozen? a = false) : (W.alloc o).frozen? a = false := (frozen_kept h (World.grownBy_alloc W o none) (fun r e => by cases e)).trans hf

/-- The place that stands with a number first. -/
def findP (id : Int) : List (Nat × Int) → Int
  | [] => -1
  | (i, x) :: r => if x = id then (i : Int) else findP id r
theorem findP_none {id : Int} : ∀ {l : List (Nat × Int)}, (∀ y ∈ l, y.2 ≠ id) → findP id l = -1
  | [], _ => rfl
  | (i, x) :: r, h => by
    unfold findP
    rw [if_neg (h (i, x) (by simp))]
    exact findP_none (fun y hy => h y (List.mem_cons_of_mem _ hy))
theorem findP_some {id : Int} : ∀ {l : List (Nat × Int)} {y : Nat × Int} {r : List (Nat × Int)}, (∀ z ∈ l, z.2 ≠ id) → y.2 = id → findP id (l ++ y :: r) = (y.1 : Int)
  | [], (i, x), r, _, h => by simp only [List.nil_append, findP]; rw [if_pos h]
  | (i, x) :: l, y, r, h, hy => by
    rw [List.cons_append, findP, if_neg (h (i, x) (by simp))]
    exact findP_some (fun z hz => h z (List.mem_cons_of_mem _ hz)) hy

set_option maxRecDepth 100000 in
set_option maxHeartbeats 2000000 in
theorem lfind_in {w : World} {base bL bA bW : Nat} {F : Nat → Prop} {v : Value} {ps : List Nat} {es : List EntM} (h : LiM w base bL bA bW F v ps es) (hl : es.length < 1000000000000) (id : Int) :
    CallsIn Fence.wide 4 Tryz.prog 84 #[.pointer (some ⟨bL, 0, none⟩), .int .i64 id] w fun e w' => e = .returned (.int .i64 (findP id (pairsN es es.length))) ∧ Below w.heap.size w w' := by
  have hb2 := below_two w (.cells #[.int .i64 id] 3) (.cells #[.int .i64 0] 3)
  have HM := hide (lmade_any (h.below hb2))
  have HH := hide h
  have HL := hide hl
  obtain ⟨h0, h1⟩ := (h.below hb2).cells
  clear h hl hb2
  refine callsIn_of_wp_marks Tryz.func84 rfl trivial ?_ rfl
  simp only [Tryz.ntmps84, List.size_toArray, List.length_cons, List.length_nil, Nat.reduceAdd, Nat.reduceSub, Array.replicate_succ, Array.replicate_zero, List.push_toArray, List.append_toArray, List.nil_append, List.cons_append]
  gi_wp2_with fail
  refine ⟨trivial, (callsIn_wide.2 (unhide HM)).mono ?_⟩
  rintro e w' ⟨rfl, rfl⟩
  gi_wp2_with fail
  refine ⟨trivial, (elements_in _ _ _).mono ?_⟩
  rintro e w' ⟨rfl, rfl⟩
  gi_wp2_with fail
  have c0 := cell_new_lAc w (.int .i64 id) 3
  have c1 := cell_new_lAc (w.alloc (.cells #[.int .i64 id] 3)) (.int .i64 0) 3
  simp only [World.size_alloc] at c1
  have hBa : (((w.alloc (.cells #[.int .i64 id] 3)).alloc (.cells #[.int .i64 0] 3)).alloc (.cells #[.pointer (some ⟨bW, 0, none⟩)] 117)).heap[w.heap.size + 1 + 1]? = some (.cells #[.pointer (some ⟨bW, 0, none⟩)] 117 (0, 0)) := last_block _ _ _ (by simp)
  have hB0 : Below w.heap.size w (((w.alloc (.cells #[.int .i64 id] 3)).alloc (.cells #[.int .i64 0] 3)).alloc (.cells #[.pointer (some ⟨bW, 0, none⟩)] 117)) := (((Below.refl _ w).alloc (Nat.le_refl _) _).alloc (by simp) _).alloc (by simp; omega) _
  have har := (unhide HH).row.below hB0
  have hPf : ∀ k, F k → k < w.heap.size := fun k hk => ((unhide HH).row.lt k hk).2
  have hll := unhide HL
  refine wpIn_rangeFunc_ownF (w0 := (((w.alloc (.cells #[.int .i64 id] 3)).alloc (.cells #[.int .i64 0] 3)).alloc (.cells #[.pointer (some ⟨bW, 0, none⟩)] 117))) rfl (by omega) (gf := 153) (lb := #[.pointer (some ⟨w.heap.size + 1 + 1, 0, none⟩)]) rfl trivial (enters_of Tryz.func153 (by kernel_rfl) rfl)
    (elem_stops 3 (by omega) (w.heap.size + 1 + 1) (fun k => k < w.heap.size) hPf _ hBa har hll) keepP_tAc (keepP_bAc (by intro k hk; simp; omega)) (Below.refl _ _) (fun _ => rfl)
    (fun pre W => ((∀ y ∈ pre, y.2 ≠ id) ∧ W.cell? ⟨w.heap.size, 0, none⟩ = some (.int .i64 id) ∧ W.cell? ⟨w.heap.size + 1, 0, none⟩ = some (.int .i64 0) ∧ W.frozen? ⟨w.heap.size + 1, 0, none⟩ = false) ∧ Below w.heap.size w W)
    (fun c pre W => (c = .ret ∧ (∃ l y, pre = l ++ [y] ∧ (∀ z ∈ l, z.2 ≠ id) ∧ y.2 = id ∧ W.cell? ⟨w.heap.size + 1, 0, none⟩ = some (.int .i64 (y.1 : Int)))) ∧ Below w.heap.size w W)
    (OwnFrom.and (Own.from (fun s A B row hs hg hr => ⟨hs.1, cell_kept hs.2.1 hg hr, cell_kept hs.2.2.1 hg hr, (frozen_kept hs.2.2.1 hg hr).trans hs.2.2.2⟩) _) (ownFrom_below (Nat.le_refl _) (by simp; omega)))
    (fun c => OwnFrom.and (Own.from (fun s A B row hs hg hr => by
      obtain ⟨e, l, y, h1, h2, h3, h4⟩ := hs
      exact ⟨e, l, y, h1, h2, h3, cell_kept h4 hg hr⟩) _) (ownFrom_below (Nat.le_refl _) (by simp; omega)))
    ⟨⟨by simp, cell_alloc_lAc _ (cell_alloc_lAc _ c0.1), cell_alloc_lAc _ c1.1, frozen_alloc_lAc _ c1.1 c1.2⟩, hB0⟩
    (fun x => { tmps := #[.pointer (some ⟨bL, 0, none⟩), .int .i64 id, undef, .pointer (some ⟨w.heap.size, 0, none⟩), .pointer (some ⟨w.heap.size + 1, 0, none⟩), .int .i64 (x.1 : Int), .int .i64 x.2, .pointer (some ⟨bL, 0, none⟩), .bool true, .bool false, .pointer (some ⟨bL, 0, none⟩), .pointer (some ⟨bL, 0, none⟩), .pointer (some ⟨bL, 1, none⟩), .pointer (some ⟨bW, 0, none⟩), .func (.func 153) #[] #[.pointer (some ⟨w.heap.size + 1 + 1, 0, none⟩)], .int .i64 (x.1 : Int), .int .i64 x.2, undef, undef, undef, undef], defers := [] }) ?assign ?body ?done ?stop
  case assign =>
    intro l x W K hK
    gi_wp2
    exact hK
  case body =>
    rintro l pre x W ⟨⟨hp, hcw, hcr, hfr⟩, hB⟩ _
    clear c0 c1 hBa hB0 hPf har hll h0 h1
    gi_wp2
    · rename_i hx
      have hx' : x.2 = id := eq_of_beq hx
      exact ⟨KeepsOthers.setCell _ _ _, ⟨rfl, pre, x, rfl, hp, hx', World.cell?_setCell_same' _ _ _ (by rw [hcr]; rfl)⟩, hB.setCell (p := ⟨w.heap.size + 1, 0, none⟩) (by simp) _⟩
    · rename_i hx
      have hx' : x.2 ≠ id := ne_of_beq_false hx
      exact ⟨KeepsOthers.refl _, fun _ _ => rfl, ⟨fun y hy => (List.mem_append.1 hy).elim (hp y) (fun e => by simp at e; subst e; exact hx'), hcw, hcr, hfr⟩, hB⟩
  case done =>
    rintro D ys W hD rfl ⟨⟨hne, _, hcr, hfr⟩, hB⟩ hK
    clear c0 c1 hBa hB0 hPf har hll h0 h1
    gi_wp2
    have hK' := (KeepsOthers.setCell W ⟨w.heap.size + 1, 0, none⟩ (.int .i64 (-1))).same D _ hK rfl
    refine ⟨by simp, .inl ⟨_, _, rfl, run_takeDeferred hK', ?_⟩⟩
    have hc5 := cell_kept (World.cell?_setCell_same' W ⟨w.heap.size + 1, 0, none⟩ (.int .i64 (-1)) (by rw [hcr]; rfl)) (grownBy_putObj' _ D (.deferred none)) (fun r e => by cases e; exact ⟨_, hK', rfl⟩)
    refine ⟨.int .i64 (-1), ?_, by rw [findP_none hne], (hB.setCell (p := ⟨w.heap.size + 1, 0, none⟩) (by simp) _).trans (belowK_b (w := w) (Nat.le_refl _) _ D _ _ (by simp at hD; omega) hK' rfl rfl)⟩
    simp [results, Tryz.results84, go_sem, hc5]
  case stop =>
    rintro D c pre W hD hpre ⟨⟨rfl, l, y, rfl, hl1, hl2, hcr⟩, hB⟩ hK
    clear c0 c1 hBa hB0 hPf har hll h0 h1
    gi_wp2
    refine ⟨by simp, .inl ⟨_, _, rfl, run_takeDeferred hK, ?_⟩⟩
    have hc5 := cell_kept hcr (grownBy_putObj' _ D (.deferred none)) (fun r e => by cases e; exact ⟨_, hK, rfl⟩)
    have hyes : findP id (pairsN es es.length) = (y.1 : Int) := by
      obtain ⟨t, ht⟩ := hpre
      rw [← ht, List.append_assoc]
      exact findP_some hl1 hl2
    refine ⟨.int .i64 (y.1 : Int), ?_, by rw [hyes], hB.trans (belowK_b (w := w) (Nat.le_refl _) W D _ _ (by simp at hD; omega) hK rfl rfl)⟩
    simp [results, Tryz.results84, go_sem, hc5]

theorem lfind_any {w : World} {base bL bA bW : Nat} {F : Nat → Prop} {v : Value} {ps : List Nat} {es : List EntM} (h : LiM w base bL bA bW F v ps es) (hl : es.length < 1000000000000) (id : Int) :
    Calls Tryz.prog 84 #[.pointer (some ⟨bL, 0, none⟩), .int .i64 id] w fun e w' => e = .returned (.int .i64 (findP id (pairsN es es.length))) ∧ Below w.heap.size w w' := callsIn_wide.1 (lfind_in h hl id)
end Go.Proofs.YtkakncngkmoegaaGreat

namespace Go.Proofs.YtkakncngkmoegaaGreat
open Go.RowKit Go.Sort Go.Shelf
attribute [local go_sem] Oper.semAt_some

/-- An entry of a row: its place there, its place in memory. -/
structure BP (es : List EntM) (ps : List Nat) where
  i : Nat
  b : Nat
  x : EntM
  hx : es[i]? = some x
  hb : ps[i]? = some b
/-- The entries behind the last marker among the first ones, from the last one back. -/
def behN (es : List EntM) (ps : List Nat) : Nat → List (BP es ps)
  | 0 => []
  | i + 1 => match hx : es[i]?, hb : ps[i]? with
    | some x, some b => if x.node = -1 then [] else ⟨i, b, x, hx, hb⟩ :: behN es ps i
    | _, _ => []
theorem behN_succ {es : List EntM} {ps : List Nat} {i b : Nat} {x : EntM} (hx : es[i]? = some x) (hb : ps[i]? = some b) : behN es ps (i + 1) = if x.node = -1 then [] else ⟨i, b, x, hx, hb⟩ :: behN es ps i := by
  conv => lhs; unfold behN
  split
  · rename_i x' b' hx' hb'
    have e1 : x' = x := by rw [hx'] at hx; exact Option.some.inj hx
    have e2 : b' = b := by rw [hb'] at hb; exact Option.some.inj hb
    subst e1 e2
    rfl
  · rename_i h
    exact (h x b hx hb).elim

set_option maxRecDepth 100000 in
set_option maxHeartbeats 1000000 in
theorem beh1_in {base bW : Nat} {F : Nat → Prop} {v : Value} {ps : List Nat} {es : List EntM} (n : Nat) (hn : 1 ≤ n) (l Ba : Nat) (P : Nat → Prop) (hPf : ∀ k, F k → P k) (hPa : P Ba) (J Jx : List (BP es ps) → World → Prop)
    (hY : ∀ pre x W, J pre W → pre.length < (behN es ps es.length).length → YieldAt Fence.wide (n - 1) Tryz.prog l #[.int .i64 ((x : BP es ps).i : Int), ptrV x.b] W fun e W' =>
      (e = .returned (.bool true) ∧ J (pre ++ [x]) W' ∧ KeepPAc P W W') ∨ (e = .returned (.bool false) ∧ Jx (pre ++ [x]) W'))
    (W : World) (hBa : W.heap[Ba]? = some (.cells #[.pointer (some ⟨bW, 0, none⟩)] 117 (0, 0))) (har : RowMAc W base bW F v ps es) (hl : es.length < 1000000000000)
    (h0 : J [] W) :
    CallsIn Fence.wide n Tryz.prog 148 #[.func (.yield l) #[] #[], .pointer (some ⟨Ba, 0, none⟩)] W fun e W' => (∃ v, e = .returned v) ∧
      ((∃ ys, ys = behN es ps es.length ∧ J ys W') ∨ (∃ pre, pre <+: behN es ps es.length ∧ Jx pre W')) := by
  have hcB := cell_of_one hBa
  have hcW := har.cell
  obtain ⟨va, vc, hv⟩ : ∃ va vc, v = .slice va es.length vc := by
    have := har.len
    rcases har.val with ⟨e, e2⟩ | ⟨g, cap, e⟩
    · subst e2; simp at this; exact ⟨none, 0, by rw [e, ← this]⟩
    · exact ⟨_, _, by rw [e, this]⟩
  subst hv
  have hwl : IntKind.i64.wrap ((es.length : Int) - 1) = (es.length : Int) - 1 := by rw [IntKind.wrap_i64]; omega
  refine callsIn_of_wp Tryz.func148 rfl trivial ?_ rfl
  simp only [Tryz.ntmps148, List.size_toArray, List.length_cons, List.length_nil, Nat.reduceAdd, Nat.reduceSub, Array.replicate_succ, Array.replicate_zero, List.push_toArray, List.append_toArray, List.nil_append, List.cons_append]
  have HBA := hide hBa
  have HAR := hide har
  have HL := hide hl
  clear hBa har hl
  gi_wp2
  clear hcB hcW
  gi_loopw [3] (fun p wr => ∃ (m : Nat) (pre : List (BP es ps)), p = .int .i64 ((m : Int) - 1) ∧ m ≤ es.length ∧ pre ++ behN es ps m = behN es ps es.length ∧ J pre wr ∧ RowMAc wr base bW F (.slice va es.length vc) ps es ∧ wr.heap[Ba]? = some (.cells #[.pointer (some ⟨bW, 0, none⟩)] 117 (0, 0)))
    (fun p _ => (intOf p + 1).toNat)
  case atStart => exact ⟨es.length, [], by go_num, Nat.le_refl _, rfl, h0, unhide HAR, unhide HBA⟩
  case round =>
    obtain ⟨m, pre, rfl, hm, hpre, hJ, hrow, hba⟩ := hrel
    have HJ := hide hJ
    have HR := hide hrow
    have HB := hide hba
    have HP := hide hpre
    have hcB := cell_of_one hba
    have hcW := hrow.cell
    clear hJ hrow hba hpre
    cases m with
    | zero =>
      have hm1 : ((0 : Nat) : Int) - 1 = -1 := by omega
      rw [hm1]
      clear hm1
      gi_wp2
      go_end0
      have e := unhide HP
      simp only [behN, List.append_nil] at e
      exact ⟨⟨_, rfl⟩, .inl ⟨pre, e, unhide HJ⟩⟩
    | succ i =>
      have hm1 : ((i + 1 : Nat) : Int) - 1 = (i : Int) := by omega
      rw [hm1]
      have hmz : (i : Int) < (es.length : Int) := by omega
      have hm0 : (0 : Int) ≤ (i : Int) := by omega
      have hwi : IntKind.i64.wrap ((i : Int) - 1) = (i : Int) - 1 := by rw [IntKind.wrap_i64]; have := unhide HL; omega
      obtain ⟨x, hx⟩ : ∃ x, es[i]? = some x := ⟨_, List.getElem?_eq_getElem (by omega)⟩
      obtain ⟨g, cap, b, e, hg, hb, he⟩ := (unhide HR).at hx
      cases e
      unfold ptrV at hg
      have HM := hide (isMarker_any he)
      have HS : Hid (behN es ps (i + 1) = if x.node = -1 then [] else ⟨i, b, x, hx, hb⟩ :: behN es ps i) := hide (behN_succ hx hb)
      have hbx : ∃ p : BP es ps, p = ⟨i, b, x, hx, hb⟩ := ⟨_, rfl⟩
      obtain ⟨p, hp⟩ := hbx
      rw [← hp] at HS
      have hpi : p.i = i := by rw [hp]
      have hpb : p.b = b := by rw [hp]
      clear hm1 he hp
      cases hmk : (x.node == -1) with
      | true =>
        have e1 : x.node = -1 := eq_of_beq hmk
        rw [hmk] at HM
        rw [if_pos e1] at HS
        clear hmk e1 hpi hpb hx hb
        gi_wp2_with fail
        refine ⟨trivial, (callsIn_wide.2 (unhide HM)).mono ?_⟩
        rintro e w1 ⟨rfl, rfl⟩
        gi_wp2
        refine ⟨fun _ _ => trivial, ?_⟩
        gi_wp2
        refine bodyPost_ret (results_none rfl _ _ _) rfl ?_
        have e := unhide HP
        rw [unhide HS, List.append_nil] at e
        exact ⟨⟨_, rfl⟩, .inl ⟨pre, e, unhide HJ⟩⟩
      | false =>
        have e1 : ¬ x.node = -1 := ne_of_beq_false hmk
        rw [hmk] at HM
        rw [if_neg e1] at HS
        clear hmk e1
        have hlen : pre.length < (behN es ps es.length).length := by
          rw [← unhide HP, unhide HS]; simp
        obtain ⟨fn, tmps, assign, body, hy, hR⟩ := hY pre p wr (unhide HJ) hlen
        rw [hpi, hpb] at hy
        clear hpi hpb
        unfold ptrV at hy
        clear hlen hx hb
        gi_wp2_with fail
        refine ⟨trivial, (callsIn_wide.2 (unhide HM)).mono ?_⟩
        rintro e w1 ⟨rfl, rfl⟩
        gi_wp2
        refine hR.mono ?_
        rintro e W3 (⟨rfl, hJ3, hk3⟩ | ⟨rfl, hJx3⟩)
        · have har3 := (unhide HR).keepP hPf hk3
          have hba3 := (hk3 Ba hPa).trans (unhide HB)
          have HA3 := hide har3
          have HJ3 := hide hJ3
          have HB3 := hide hba3
          clear har3 hJ3 hba3
          gi_wp2
          go_roundw
          case rel => exact ⟨i, pre ++ [p], by go_num, by omega, by rw [← unhide HP, unhide HS]; simp, unhide HJ3, unhide HA3, unhide HB3⟩
          case measure => simp only [intOf]; omega
        · gi_wp2
          refine bodyPost_ret (results_none rfl _ _ _) rfl ?_
          exact ⟨⟨_, rfl⟩, .inr ⟨pre ++ [p], ⟨behN es ps i, by rw [← unhide HP, unhide HS]; simp⟩, hJx3⟩⟩
end Go.Proofs.YtkakncngkmoegaaGreat
