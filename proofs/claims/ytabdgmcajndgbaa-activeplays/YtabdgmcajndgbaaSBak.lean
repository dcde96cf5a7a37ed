/-
  Package active: the last marker; whether two entries are alike. Package active: the ranges over functions: elements, behindMarker.
-/
import Derived.Test.YtabdgmcajndgbaaSBaj
import Derived.RangeFuncNested
import Derived.RangeFuncBound
import Derived.RangeFuncCalls
import Derived.RangeFuncLeaves
import Derived.RangeFuncBox
import Derived.Shelf.RegionOpen
import Derived.OwnWalkIn
import Derived.TacticsInMore
import Derived.LoopNIn
import Derived.LoopIn
namespace Go.Proofs.Ytabdgmcajndgbaa
open Go.RowKit Go.Sort

/-- The place of the last marker among the first ones; -1. -/
def lastM (es : List EntM) : Nat → Int
  | 0 => -1
  | i + 1 => match es[i]? with
    | some x => if x.node = -1 then (i : Int) else lastM es i
    | none => -1

section
variable {w : World} {base bW : Nat} {F : Nat → Prop} {v : Value} {ps : List Nat} {es : List EntM}

set_option maxHeartbeats 2000000 in
theorem lastMarker_any (h : RowM w base bW F v ps es) (hl : es.length < 1000000000000) :
    Calls Try.prog 57 #[.pointer (some ⟨bW, 0, none⟩)] w fun e w' => e = .returned (.int .i64 (lastM es es.length)) ∧ w = w' := by
  have hc := h.cell
  have HH := hide h
  have hlz : (es.length : Int) < 1000000000000 := by omega
  have hlz0 : (0 : Int) ≤ (es.length : Int) := by omega
  have hund : undef = Value.tuple #[] := rfl
  obtain ⟨va, vc, rfl⟩ : ∃ va vc, v = .slice va es.length vc := by
    have := h.len
    rcases h.val with ⟨e, e2⟩ | ⟨g, cap, e⟩
    · subst e2; simp at this; exact ⟨none, 0, by rw [e, ← this]⟩
    · exact ⟨_, _, by rw [e, this]⟩
  have HC : Hid (∀ W, Below w.heap.size w W → W.cell? ⟨bW, 0, none⟩ = some (.slice va es.length vc)) := hide (fun W hb => (h.below hb).cell)
  clear h hl
  go_enter Try.func57, Try.ntmps57
  go_wp2
  go_loopg [3] es.length (fun j s wx => s = .int .i64 ((j : Int) - 1) ∧ j ≤ es.length ∧ lastM es es.length = lastM es j ∧ wx = w)
  case atStart => exact ⟨by go_num, Nat.le_refl _, rfl, rfl⟩
  case round =>
    obtain ⟨rfl, hj, hrec, rfl⟩ := hrel
    have HR := hide hrec
    clear hrec
    cases gk with
    | zero =>
      have hm : ((0 : Nat) : Int) - 1 = -1 := by omega
      rw [hm]
      clear hm
      go_wp2_with fail
      go_ret
      exact ⟨by rw [unhide HR]; rfl, rfl⟩
    | succ n =>
      obtain ⟨x, hx⟩ : ∃ x, es[n]? = some x := ⟨_, List.getElem?_eq_getElem (by omega)⟩
      obtain ⟨g, cap, b, e, hg, hb, he⟩ := (unhide HH).at hx
      cases e
      have hm : ((n + 1 : Nat) : Int) - 1 = (n : Int) := by omega
      rw [hm]
      have hnz : (n : Int) < (es.length : Int) := by omega
      have hn0 : (0 : Int) ≤ (n : Int) := by omega
      have HM := hide (isMarker_any he)
      have HS : Hid (lastM es (n + 1) = if x.node = -1 then (n : Int) else lastM es n) := hide (by rw [lastM, hx])
      unfold ptrV at hg
      clear hm hx hb he
      cases hmk : (x.node == -1) with
      | true =>
        have e1 : x.node = -1 := eq_of_beq hmk
        rw [hmk] at HM
        rw [if_pos e1] at HS
        clear hmk e1
        go_wp2_with (go_at_call 61; refine (unhide HM).mono ?_; rintro e w1 ⟨rfl, rfl⟩)
        go_ret
        exact ⟨by rw [unhide HR, unhide HS]; rfl, rfl⟩
      | false =>
        have e1 : ¬ x.node = -1 := ne_of_beq_false hmk
        rw [hmk] at HM
        rw [if_neg e1] at HS
        clear hmk e1
        go_wp2_with (go_at_call 61; refine (unhide HM).mono ?_; rintro e w1 ⟨rfl, rfl⟩)
        go_roundg n
        case measure => omega
        case rel => exact ⟨by go_num, by omega, (unhide HR).trans (unhide HS), rfl⟩
end

def eqL : List AttrM → List AttrM → Bool
  | [], [] => true
  | x :: a, y :: b => eqA x y && eqL a b
  | _, _ => false
theorem eqL_iff : ∀ {l m : List AttrM}, eqL l m = true ↔ l = m
  | [], [] => by simp [eqL]
  | [], _ :: _ => by simp [eqL]
  | _ :: _, [] => by simp [eqL]
  | x :: a, y :: b => by rw [eqL, Bool.and_eq_true, eqA_iff, eqL_iff]; simp
theorem eqL_no {l m : List AttrM} {j : Nat} {x y : AttrM} (hx : l[j]? = some x) (hy : m[j]? = some y) (h : eqA x y = false) : eqL l m = false := by
  rw [← Bool.not_eq_true, eqL_iff]
  intro e
  subst e
  rw [hx] at hy
  cases hy
  exact (eqA_no.1 h) rfl
theorem eqL_yes {l m : List AttrM} (hl : l.length = m.length) (h : ∀ (j : Nat) x y, l[j]? = some x → m[j]? = some y → eqA x y = true) : eqL l m = true := by
  rw [eqL_iff]
  apply List.ext_getElem?
  intro j
  by_cases hj : j < l.length
  · have hx : l[j]? = some l[j] := List.getElem?_eq_getElem hj
    have hy : m[j]? = some (m[j]'(by omega)) := List.getElem?_eq_getElem (by omega)
    rw [hx, hy, eqA_iff.1 (h j _ _ hx hy)]
  · rw [List.getElem?_eq_none (by omega), List.getElem?_eq_none (by omega)]

set_option maxHeartbeats 4000000 in
set_option maxRecDepth 10000 in
theorem equal_any {w : World} (a b : Option Addr) (ca cb : Nat) (l m : List AttrM) (ha : AttrsIn w a l) (hb : AttrsIn w b m) (hl : l.length ≤ 2513169434916) :
    Calls Try.prog 76 #[.slice a l.length ca, .slice b m.length cb] w fun e w' => e = .returned (.bool (eqL l m)) ∧ ∃ q, w' = w.drewN q := by
  have HA := hide ha
  have HB := hide hb
  clear ha hb
  by_cases hlen : l.length = m.length
  · have hzz : ((l.length : Int) != (m.length : Int)) = false := by simp [hlen]
    have hlz : (l.length : Int) ≤ 2513169434916 := by omega
    have HL := hide hlen
    clear hlen hl
    go_enter Try.func76, Try.ntmps76
    go_wp2
    go_loopg [5, 13] l.length (fun k _ s wx => ∃ j : Nat, s = .int .i64 j ∧ j + k = l.length ∧ (∃ q, wx = w.drewN q) ∧ ∀ (i : Nat) x y, i < j → l[i]? = some x → m[i]? = some y → eqA x y = true)
    case atStart => exact ⟨0, rfl, by omega, ⟨0, rfl⟩, fun i x y h => by omega⟩
    case round =>
      obtain ⟨j, rfl, hjk, ⟨q, hq0⟩, hpre⟩ := hrel
      have hbw : Below w.heap.size w wr := by rw [hq0]; exact below_dn (Below.refl _ _) q
      have HP := hide hpre
      have HQ := hide hq0
      clear hpre hq0
      by_cases hj : j < l.length
      · obtain ⟨x, hx⟩ : ∃ x, l[j]? = some x := ⟨_, List.getElem?_eq_getElem hj⟩
        obtain ⟨y, hy⟩ : ∃ y, m[j]? = some y := ⟨_, List.getElem?_eq_getElem (by rw [← unhide HL]; exact hj)⟩
        have hjz : (j : Int) < (l.length : Int) := by omega
        have hjm : (j : Int) < (m.length : Int) := by rw [← unhide HL]; exact hjz
        obtain ⟨ba, oa, rfl, a0, a1, a2, a3⟩ := ((unhide HA).below hbw).cells j _ hx
        obtain ⟨bb, ob, rfl, b0, b1, b2, b3⟩ := ((unhide HB).below hbw).cells j _ hy
        have HX := hide hx
        have HY := hide hy
        clear hx hbw hy
        cases he : eqA x y with
        | true =>
          have HE := hide he
          have hg := guardA
          have hq := fun W => neqAttr x y W
          rw [he] at hq
          clear he
          go_wp2
          go_quiet (fail)
          go_wp2
          go_roundg (gk - 1)
          case measure => omega
          case rel =>
            refine ⟨j + 1, by go_num, by omega, ⟨q + nq, by rw [unhide HQ, World.drewN_drewN]⟩, fun i x' y' hi hx' hy' => ?_⟩
            by_cases e : i = j
            · subst e; rw [unhide HX] at hx'; rw [unhide HY] at hy'; cases hx'; cases hy'; exact unhide HE
            · exact (unhide HP) i x' y' (by omega) hx' hy'
        | false =>
          have HE := hide he
          have hg := guardA
          have hq := fun W => neqAttr x y W
          rw [he] at hq
          clear he
          go_wp2
          go_quiet (fail)
          go_wp2
          go_ret
          refine ⟨?_, ⟨q + nq, by rw [unhide HQ, World.drewN_drewN]⟩⟩
          rw [eqL_no (unhide HX) (unhide HY) (unhide HE)]
          rfl
      · have hjz : ¬ (j : Int) < (l.length : Int) := by omega
        go_wp2
        go_ret
        refine ⟨?_, ⟨q, unhide HQ⟩⟩
        rw [eqL_yes (unhide HL) (fun i x y hx hy => (unhide HP) i x y (by have := (List.getElem?_eq_some_iff.1 hx).1; omega) hx hy)]
        rfl
  · have hzz : ((l.length : Int) != (m.length : Int)) = true := by rw [bne_iff_ne]; omega
    have HL := hide hlen
    clear hlen hl
    go_enter Try.func76, Try.ntmps76
    go_wp2
    go_ret
    refine ⟨?_, 0, rfl⟩
    have : eqL l m = false := by
      rw [← Bool.not_eq_true, eqL_iff]
      intro e
      exact (unhide HL) (by rw [e])
    rw [this]; rfl

/-- Whether two entries are alike. -/
def kinB (s t : Int) (n m : ByteArray) : Bool := decide (s = t) && decide (n = m)
def alikeM (x y : EntM) : Bool := kinB x.sp y.sp x.nm y.nm && eqL (setL x.tok.attrs) (setL y.tok.attrs)

theorem eqlKin (s t : Int) (n m : ByteArray) (w : World) : (binOp .eql 81 (.agg #[.int .i64 s, .string n]) (.agg #[.int .i64 t, .string m])).run Try.prog w = .ok (.bool (kinB s t n m)) w := by
  have u3 := Try.underlying3
  have a3 := Try.isAgg3
  have z3 := Try.sizeOf3
  have u9 := Try.underlying9
  have a9 := Try.isAgg9
  have z9 := Try.sizeOf9
  have hS : Try.prog.underlying 81 = some (.struct (Try.prog.fieldsOf 81)) := by kernel_rfl
  have hp : Try.prog.stoodInHeld 81 = false := by kernel_rfl
  have dk : ∀ x y : ByteArray, decide (x = y) = decide (x.toList = y.toList) := fun x y => decide_eq_decide.2 ⟨fun e => by rw [e], bytes_ext⟩
  rw [run_eql_struct, show (10000 : Nat) = 9999 + 1 from rfl, run_equalIn_agg w 9999 81 _ _ hS hp]
  simp only [Program.fieldsOf, Try.underlying81]
  go_simp
  unfold kinB
  simp only [dk]
  by_cases h0 : s = t <;> by_cases h1 : n.toList = m.toList <;> simp [h0, h1]
theorem guardK : Try.prog.eqGuardType Try.prog.depth 81 = false := by kernel_rfl

set_option maxHeartbeats 4000000 in
theorem alike_any {w : World} {F : Nat → Prop} {b c : Nat} {x y : EntM} (hx : EntIn w F b x) (hy : EntIn w F c y) :
    Calls Try.prog 67 #[.pointer (some ⟨b, 0, none⟩), .pointer (some ⟨c, 0, none⟩)] w fun e w' => e = .returned (.bool (alikeM x y)) ∧ ∃ q, w' = w.drewN q := by
  obtain ⟨ao, ac, so, sc, h1, _, h2⟩ := hx.lies
  obtain ⟨ao', ac', so', sc', k1, _, k2⟩ := hy.lies
  have a1 : w.cell? ⟨b, 1, none⟩ = some (.int .i64 x.sp) := cell_of_row _ _ 1 _ _ _ h1
  have a2 : w.cell? ⟨b, 2, none⟩ = some (.string x.nm) := cell_of_row _ _ 2 _ _ _ h1
  have a3 : w.cell? ⟨b, 12, none⟩ = some (.slice so (setL x.tok.attrs).length sc) := cell_of_row _ _ 12 _ _ _ h1
  have b1 : w.cell? ⟨c, 1, none⟩ = some (.int .i64 y.sp) := cell_of_row _ _ 1 _ _ _ k1
  have b2 : w.cell? ⟨c, 2, none⟩ = some (.string y.nm) := cell_of_row _ _ 2 _ _ _ k1
  have b3 : w.cell? ⟨c, 12, none⟩ = some (.slice so' (setL y.tok.attrs).length sc') := cell_of_row _ _ 12 _ _ _ k1
  have hfew : (setL x.tok.attrs).length ≤ 2513169434916 := by
    have e1 := compA_len (sortA x.tok.attrs)
    rw [sortA_len] at e1
    have e2 := hx.few
    unfold setL
    omega
  have HE := hide (fun q => equal_any (w := w.drewN q) so so' sc sc' (setL x.tok.attrs) (setL y.tok.attrs) (h2.ins.below (below_dn (Below.refl _ _) q)) (k2.ins.below (below_dn (Below.refl _ _) q)) hfew)
  have hg := guardK
  have hk := fun W => eqlKin x.sp y.sp x.nm y.nm W
  have hund : undef = Value.tuple #[] := rfl
  unfold alikeM
  generalize setL x.tok.attrs = sx at *
  generalize setL y.tok.attrs = sy at *
  obtain ⟨xn, xs, xm, xt⟩ := x
  obtain ⟨yn, ys, ym, yt⟩ := y
  simp only at *
  clear hx hy h1 k1 h2 k2 hfew
  cases hkk : kinB xs ys xm ym with
  | false =>
    rw [hkk] at hk
    clear hkk
    go_enter Try.func67, Try.ntmps67
    go_wp2_with fail
    first | go_quiet (fail) | fail
    go_wp2
    go_ret
    exact ⟨rfl, _, rfl⟩
  | true =>
    rw [hkk] at hk
    clear hkk
    go_enter Try.func67, Try.ntmps67
    go_wp2_with fail
    go_quiet (first | (go_at_call 76; exact Calls.quiet_of ((unhide HE) _)))
    go_wp2
    go_ret
    exact ⟨rfl, _, rfl⟩
end Go.Proofs.Ytabdgmcajndgbaa

namespace Go.Proofs.Ytabdgmcajndgbaa
open Go.RowKit Go.Sort Go.Shelf
attribute [local go_sem] Oper.semAt_some

/-- The blocks of P lie as they lay. -/
def KeepP (P : Nat → Prop) (W W' : World) : Prop := ∀ k, P k → W'.heap[k]? = W.heap[k]?
theorem keepP_t {P : Nat → Prop} {A B C : World} (h : KeepP P A B) (k : KeepP P B C) : KeepP P A C := fun i hi => (k i hi).trans (h i hi)
theorem keepP_b {P : Nat → Prop} {w : World} (hP : ∀ k, P k → k < w.heap.size) (W : World) (l : Nat) (o o' : Obj) (hl : w.heap.size ≤ l) (_ : W.heap[l]? = some o) (_ : o.isCells = false) (_ : o.isWalk = false) : KeepP P W (W.putObj l o') := by
  intro k hk
  have := hP k hk
  have hne : l ≠ k := by omega
  simp [World.putObj, hne]

theorem RowM.keepP {w w' : World} {base bW : Nat} {F P : Nat → Prop} {v : Value} {ps : List Nat} {es : List EntM} (h : RowM w base bW F v ps es) (hP : ∀ k, F k → P k) (hk : KeepP P w w') : RowM w' base bW F v ps es :=
  ⟨(hk bW (hP _ h.fb)).trans h.box, ownsRow_kept h.own (fun k e => hk k (hP k (h.fv k e))), h.len, h.nodup, fun i b x hb hx => (h.ents i b x hb hx).keep (hk b (hP b (h.ents i b x hb hx).fb)) (fun k _ hf _ => hk k (hP k hf)), h.fb, h.fv, fun k hf => ⟨(h.lt k hf).1, by
    have e := hk k (hP k hf)
    rw [Array.getElem?_eq_getElem (h.lt k hf).2] at e
    exact (Array.getElem?_eq_some_iff.1 e).1⟩⟩

/-- The elements of the first entries, with their places. -/
def pairsN (es : List EntM) : Nat → List (Nat × Int)
  | 0 => []
  | n + 1 => pairsN es n ++ (match es[n]? with | some x => if x.node = -1 then [] else [(n, x.node)] | none => [])
theorem pairsN_pre (es : List EntM) : ∀ {m n : Nat}, m ≤ n → pairsN es m <+: pairsN es n
  | m, 0, h => by obtain rfl : m = 0 := by omega
                  exact List.prefix_rfl
  | m, n + 1, h => by
    by_cases e : m = n + 1
    · subst e; exact List.prefix_rfl
    · exact (pairsN_pre es (m := m) (n := n) (by omega)).trans (List.prefix_append _ _)

set_option maxRecDepth 100000 in
set_option maxHeartbeats 1000000 in
theorem elem1_in {base bW : Nat} {F : Nat → Prop} {v : Value} {ps : List Nat} {es : List EntM} (n : Nat) (hn : 1 ≤ n) (l Ba : Nat) (P : Nat → Prop) (hPf : ∀ k, F k → P k) (J Jx : List (Nat × Int) → World → Prop)
    (hY : ∀ pre x W, J pre W → pre.length < (pairsN es es.length).length → YieldAt Fence.wide (n - 1) Try.prog l #[.int .i64 ((x : Nat × Int).1 : Int), .int .i64 x.2] W fun e W' =>
      (e = .returned (.bool true) ∧ J (pre ++ [x]) W' ∧ KeepP P W W') ∨ (e = .returned (.bool false) ∧ Jx (pre ++ [x]) W'))
    (W : World) (hBa : W.heap[Ba]? = some (.cells #[.pointer (some ⟨bW, 0, none⟩)] 60 (0, 0))) (har : RowM W base bW F v ps es) (hl : es.length < 1000000000000)
    (h0 : J [] W) :
    CallsIn Fence.wide n Try.prog 60 #[.func (.yield l) #[] #[], .pointer (some ⟨Ba, 0, none⟩)] W fun e W' => (∃ v, e = .returned v) ∧
      ((∃ ys, ys = pairsN es es.length ∧ J ys W') ∨ (∃ pre, pre <+: pairsN es es.length ∧ Jx pre W')) := by
  have hcB := cell_of_one hBa
  have hcW := har.cell
  obtain ⟨va, vc, hv⟩ : ∃ va vc, v = .slice va es.length vc := by
    have := har.len
    rcases har.val with ⟨e, e2⟩ | ⟨g, cap, e⟩
    · subst e2; simp at this; exact ⟨none, 0, by rw [e, ← this]⟩
    · exact ⟨_, _, by rw [e, this]⟩
  subst hv
  refine callsIn_of_wp Try.func60 rfl trivial ?_ rfl
  simp only [Try.ntmps60, List.size_toArray, List.length_cons, List.length_nil, Nat.reduceAdd, Nat.reduceSub, Array.replicate_succ, Array.replicate_zero, List.push_toArray, List.append_toArray, List.nil_append, List.cons_append]
  have HBA := hide hBa
  have HAR := hide har
  have HL := hide hl
  clear hBa har hl
  gi_wp2
  gi_loopw [3, 4, 10] (fun _ _ p wr => ∃ m : Nat, p = .int .i64 (m : Int) ∧ m ≤ es.length ∧ J (pairsN es m) wr ∧ RowM wr base bW F (.slice va es.length vc) ps es)
    (fun _ _ p _ => es.length - (intOf p).toNat)
  case atStart => exact ⟨0, rfl, Nat.zero_le _, h0, unhide HAR⟩
  case round =>
    obtain ⟨m, rfl, hm, hJ, hrow⟩ := hrel
    have HJ := hide hJ
    have HR := hide hrow
    clear hJ hrow
    by_cases hme : m = es.length
    · subst hme
      have hz : ¬ (es.length : Int) < (es.length : Int) := by omega
      gi_wp2
      go_end0
      exact ⟨⟨_, rfl⟩, .inl (unhide HJ)⟩
    · have hmz : (m : Int) < (es.length : Int) := by omega
      have hm0 : (0 : Int) ≤ (m : Int) := by omega
      obtain ⟨x, hx⟩ : ∃ x, es[m]? = some x := ⟨_, List.getElem?_eq_getElem (by omega)⟩
      obtain ⟨g, cap, b, e, hg, hb, he⟩ := (unhide HR).at hx
      cases e
      unfold ptrV at hg
      have HM := hide (isMarker_any he)
      have HS : Hid (pairsN es (m + 1) = pairsN es m ++ (if x.node = -1 then [] else [(m, x.node)])) := hide (by rw [pairsN, hx])
      obtain ⟨ao, ac, so, sc, hblk, _⟩ := he.lies
      have hcn : wr.cell? ⟨b, 0, none⟩ = some (.int .i64 x.node) := cell_of_row _ _ 0 _ _ _ hblk
      clear hx hb he hblk
      cases hmk : (x.node == -1) with
      | true =>
        have e1 : x.node = -1 := eq_of_beq hmk
        rw [hmk] at HM
        rw [if_pos e1, List.append_nil] at HS
        clear hmk e1
        gi_wp2_with fail
        refine ⟨trivial, (callsIn_wide.2 (unhide HM)).mono ?_⟩
        rintro e w1 ⟨rfl, rfl⟩
        have hwr : IntKind.i64.wrap ((m : Int) + 1) = (m : Int) + 1 := by rw [IntKind.wrap_i64]; have := unhide HL; omega
        gi_wp2
        refine ⟨fun _ _ => trivial, ?_⟩
        gi_wp2
        go_roundw
        case rel => exact ⟨m + 1, by go_num, by omega, by rw [unhide HS]; exact unhide HJ, unhide HR⟩
        case measure =>
          have hi1 : (intOf (.int .i64 ((m : Int) + 1))).toNat = m + 1 := by simp only [intOf]; omega
          have hi2 : (intOf (.int .i64 (m : Int))).toNat = m := by simp only [intOf]; omega
          rw [hi1, hi2]
          omega
      | false =>
        have e1 : ¬ x.node = -1 := ne_of_beq_false hmk
        rw [hmk] at HM
        rw [if_neg e1] at HS
        clear hmk e1
        have hlen : (pairsN es m).length < (pairsN es es.length).length := by
          have h1 := (pairsN_pre es (m := m + 1) (n := es.length) (by omega)).length_le
          rw [unhide HS, List.length_append] at h1
          simp at h1
          omega
        have hpre9 : pairsN es (m + 1) <+: pairsN es es.length := pairsN_pre es (by omega)
        have HPRE := hide hpre9
        obtain ⟨fn, tmps, assign, body, hy, hR⟩ := hY (pairsN es m) (m, x.node) wr (unhide HJ) hlen
        clear hlen hpre9
        gi_wp2_with fail
        refine ⟨trivial, (callsIn_wide.2 (unhide HM)).mono ?_⟩
        rintro e w1 ⟨rfl, rfl⟩
        gi_wp2
        refine hR.mono ?_
        rintro e W3 (⟨rfl, hJ3, hk3⟩ | ⟨rfl, hJx3⟩)
        · have har3 := (unhide HR).keepP hPf hk3
          have HA3 := hide har3
          have HJ3 := hide hJ3
          have hwr : IntKind.i64.wrap ((m : Int) + 1) = (m : Int) + 1 := by rw [IntKind.wrap_i64]; have := unhide HL; omega
          clear har3 hJ3
          gi_wp2
          go_roundw
          case rel => exact ⟨m + 1, by go_num, by omega, by rw [unhide HS]; exact unhide HJ3, unhide HA3⟩
          case measure =>
            have hi1 : (intOf (.int .i64 ((m : Int) + 1))).toNat = m + 1 := by simp only [intOf]; omega
            have hi2 : (intOf (.int .i64 (m : Int))).toNat = m := by simp only [intOf]; omega
            rw [hi1, hi2]
            omega
        · gi_wp2
          refine bodyPost_ret (results_none rfl _ _ _) rfl ?_
          exact ⟨⟨_, rfl⟩, .inr ⟨pairsN es m ++ [(m, x.node)], by rw [← unhide HS]; exact unhide HPRE, hJx3⟩⟩
end Go.Proofs.Ytabdgmcajndgbaa
