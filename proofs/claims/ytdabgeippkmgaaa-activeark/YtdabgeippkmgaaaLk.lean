/-
  Package active: the last marker; whether two entries are alike.
-/
import Derived.Test.YtdabgeippkmgaaaLj
namespace Go.Proofs.Ytdabgeippkmgaaa
open Go.RowKit Go.Sort

/-- The place of the last marker among the first ones; -1. -/
def lastM (es : List EntM) : Nat → Int
  | 0 => -1
  | i + 1 => match es[i]? with
    | some x => if x.node = -1 then (i : Int) else lastM es i
    | none => -1

section
variable {w : World} {base bW : Nat} {F : Nat → Prop} {v : Value} {ps : List Nat} {es : List EntM}

set_option maxHeartbeats 2000000 in
theorem lastMarker_any (h : RowM w base bW F v ps es) (hl : es.length < 1000000000000) :
    Calls Try.prog 160 #[.pointer (some ⟨bW, 0, none⟩)] w fun e w' => e = .returned (.int .i64 (lastM es es.length)) ∧ w = w' := by
  have hc := h.cell
  have HH := hide h
  have hlz : (es.length : Int) < 1000000000000 := by omega
  have hlz0 : (0 : Int) ≤ (es.length : Int) := by omega
  have hund : undef = Value.tuple #[] := rfl
  obtain ⟨va, vc, rfl⟩ : ∃ va vc, v = .slice va es.length vc := by
    have := h.len
    rcases h.val with ⟨e, e2⟩ | ⟨g, cap, e⟩
    · subst e2; simp at this; exact ⟨none, 0, by rw [e, ← this]⟩
    · exact ⟨_, _, by rw [e, this]⟩
  have HC : Hid (∀ W, Below w.heap.size w W → W.cell? ⟨bW, 0, none⟩ = some (.slice va es.length vc)) := hide (fun W hb => (h.below hb).cell)
  clear h hl
  go_enter Try.func160, Try.ntmps160
  go_wp2
  go_loopg [3] es.length (fun j s wx => s = .int .i64 ((j : Int) - 1) ∧ j ≤ es.length ∧ lastM es es.length = lastM es j ∧ wx = w)
  case atStart => exact ⟨by go_num, Nat.le_refl _, rfl, rfl⟩
  case round =>
    obtain ⟨rfl, hj, hrec, rfl⟩ := hrel
    have HR := hide hrec
    clear hrec
    cases gk with
    | zero =>
      have hm : ((0 : Nat) : Int) - 1 = -1 := by omega
      rw [hm]
      clear hm
      go_wp2_with fail
      go_ret
      exact ⟨by rw [unhide HR]; rfl, rfl⟩
    | succ n =>
      obtain ⟨x, hx⟩ : ∃ x, es[n]? = some x := ⟨_, List.getElem?_eq_getElem (by omega)⟩
      obtain ⟨g, cap, b, e, hg, hb, he⟩ := (unhide HH).at hx
      cases e
      have hm : ((n + 1 : Nat) : Int) - 1 = (n : Int) := by omega
      rw [hm]
      have hnz : (n : Int) < (es.length : Int) := by omega
      have hn0 : (0 : Int) ≤ (n : Int) := by omega
      have HM := hide (isMarker_any he)
      have HS : Hid (lastM es (n + 1) = if x.node = -1 then (n : Int) else lastM es n) := hide (by rw [lastM, hx])
      unfold ptrV at hg
      clear hm hx hb he
      cases hmk : (x.node == -1) with
      | true =>
        have e1 : x.node = -1 := eq_of_beq hmk
        rw [hmk] at HM
        rw [if_pos e1] at HS
        clear hmk e1
        go_wp2_with (go_at_call 163; refine (unhide HM).mono ?_; rintro e w1 ⟨rfl, rfl⟩)
        go_ret
        exact ⟨by rw [unhide HR, unhide HS]; rfl, rfl⟩
      | false =>
        have e1 : ¬ x.node = -1 := ne_of_beq_false hmk
        rw [hmk] at HM
        rw [if_neg e1] at HS
        clear hmk e1
        go_wp2_with (go_at_call 163; refine (unhide HM).mono ?_; rintro e w1 ⟨rfl, rfl⟩)
        go_roundg n
        case measure => omega
        case rel => exact ⟨by go_num, by omega, (unhide HR).trans (unhide HS), rfl⟩
end

def eqL : List AttrM → List AttrM → Bool
  | [], [] => true
  | x :: a, y :: b => eqA x y && eqL a b
  | _, _ => false
theorem eqL_iff : ∀ {l m : List AttrM}, eqL l m = true ↔ l = m
  | [], [] => by simp [eqL]
  | [], _ :: _ => by simp [eqL]
  | _ :: _, [] => by simp [eqL]
  | x :: a, y :: b => by rw [eqL, Bool.and_eq_true, eqA_iff, eqL_iff]; simp
theorem eqL_no {l m : List AttrM} {j : Nat} {x y : AttrM} (hx : l[j]? = some x) (hy : m[j]? = some y) (h : eqA x y = false) : eqL l m = false := by
  rw [← Bool.not_eq_true, eqL_iff]
  intro e
  subst e
  rw [hx] at hy
  cases hy
  exact (eqA_no.1 h) rfl
theorem eqL_yes {l m : List AttrM} (hl : l.length = m.length) (h : ∀ (j : Nat) x y, l[j]? = some x → m[j]? = some y → eqA x y = true) : eqL l m = true := by
  rw [eqL_iff]
  apply List.ext_getElem?
  intro j
  by_cases hj : j < l.length
  · have hx : l[j]? = some l[j] := List.getElem?_eq_getElem hj
    have hy : m[j]? = some (m[j]'(by omega)) := List.getElem?_eq_getElem (by omega)
    rw [hx, hy, eqA_iff.1 (h j _ _ hx hy)]
  · rw [List.getElem?_eq_none (by omega), List.getElem?_eq_none (by omega)]

set_option maxHeartbeats 4000000 in
set_option maxRecDepth 10000 in
theorem equal_any {w : World} (a b : Option Addr) (ca cb : Nat) (l m : List AttrM) (ha : AttrsIn w a l) (hb : AttrsIn w b m) (hl : l.length ≤ 2513169434916) :
    Calls Try.prog 189 #[.slice a l.length ca, .slice b m.length cb] w fun e w' => e = .returned (.bool (eqL l m)) ∧ ∃ q, w' = w.drewN q := by
  have HA := hide ha
  have HB := hide hb
  clear ha hb
  by_cases hlen : l.length = m.length
  · have hzz : ((l.length : Int) != (m.length : Int)) = false := by simp [hlen]
    have hlz : (l.length : Int) ≤ 2513169434916 := by omega
    have HL := hide hlen
    clear hlen hl
    go_enter Try.func189, Try.ntmps189
    go_wp2
    go_loopg [5, 13] l.length (fun k _ s wx => ∃ j : Nat, s = .int .i64 j ∧ j + k = l.length ∧ (∃ q, wx = w.drewN q) ∧ ∀ (i : Nat) x y, i < j → l[i]? = some x → m[i]? = some y → eqA x y = true)
    case atStart => exact ⟨0, rfl, by omega, ⟨0, rfl⟩, fun i x y h => by omega⟩
    case round =>
      obtain ⟨j, rfl, hjk, ⟨q, hq0⟩, hpre⟩ := hrel
      have hbw : Below w.heap.size w wr := by rw [hq0]; exact below_dn (Below.refl _ _) q
      have HP := hide hpre
      have HQ := hide hq0
      clear hpre hq0
      by_cases hj : j < l.length
      · obtain ⟨x, hx⟩ : ∃ x, l[j]? = some x := ⟨_, List.getElem?_eq_getElem hj⟩
        obtain ⟨y, hy⟩ : ∃ y, m[j]? = some y := ⟨_, List.getElem?_eq_getElem (by rw [← unhide HL]; exact hj)⟩
        have hjz : (j : Int) < (l.length : Int) := by omega
        have hjm : (j : Int) < (m.length : Int) := by rw [← unhide HL]; exact hjz
        obtain ⟨ba, oa, rfl, a0, a1, a2, a3⟩ := ((unhide HA).below hbw).cells j _ hx
        obtain ⟨bb, ob, rfl, b0, b1, b2, b3⟩ := ((unhide HB).below hbw).cells j _ hy
        have HX := hide hx
        have HY := hide hy
        clear hx hbw hy
        cases he : eqA x y with
        | true =>
          have HE := hide he
          have hg := guardA
          have hq := fun W => neqAttr x y W
          rw [he] at hq
          clear he
          go_wp2
          go_quiet (fail)
          go_wp2
          go_roundg (gk - 1)
          case measure => omega
          case rel =>
            refine ⟨j + 1, by go_num, by omega, ⟨q + nq, by rw [unhide HQ, World.drewN_drewN]⟩, fun i x' y' hi hx' hy' => ?_⟩
            by_cases e : i = j
            · subst e; rw [unhide HX] at hx'; rw [unhide HY] at hy'; cases hx'; cases hy'; exact unhide HE
            · exact (unhide HP) i x' y' (by omega) hx' hy'
        | false =>
          have HE := hide he
          have hg := guardA
          have hq := fun W => neqAttr x y W
          rw [he] at hq
          clear he
          go_wp2
          go_quiet (fail)
          go_wp2
          go_ret
          refine ⟨?_, ⟨q + nq, by rw [unhide HQ, World.drewN_drewN]⟩⟩
          rw [eqL_no (unhide HX) (unhide HY) (unhide HE)]
          rfl
      · have hjz : ¬ (j : Int) < (l.length : Int) := by omega
        go_wp2
        go_ret
        refine ⟨?_, ⟨q, unhide HQ⟩⟩
        rw [eqL_yes (unhide HL) (fun i x y hx hy => (unhide HP) i x y (by have := (List.getElem?_eq_some_iff.1 hx).1; omega) hx hy)]
        rfl
  · have hzz : ((l.length : Int) != (m.length : Int)) = true := by rw [bne_iff_ne]; omega
    have HL := hide hlen
    clear hlen hl
    go_enter Try.func189, Try.ntmps189
    go_wp2
    go_ret
    refine ⟨?_, 0, rfl⟩
    have : eqL l m = false := by
      rw [← Bool.not_eq_true, eqL_iff]
      intro e
      exact (unhide HL) (by rw [e])
    rw [this]; rfl

/-- Whether two entries are alike. -/
def kinB (s t : Int) (n m : ByteArray) : Bool := decide (s = t) && decide (n = m)
def alikeM (x y : EntM) : Bool := kinB x.sp y.sp x.nm y.nm && eqL (setL x.tok.attrs) (setL y.tok.attrs)

theorem eqlKin (s t : Int) (n m : ByteArray) (w : World) : (binOp .eql 135 (.agg #[.int .i64 s, .string n]) (.agg #[.int .i64 t, .string m])).run Try.prog w = .ok (.bool (kinB s t n m)) w := by
  have u3 := Try.underlying3
  have a3 := Try.isAgg3
  have z3 := Try.sizeOf3
  have u9 := Try.underlying9
  have a9 := Try.isAgg9
  have z9 := Try.sizeOf9
  have hS : Try.prog.underlying 135 = some (.struct (Try.prog.fieldsOf 135)) := by kernel_rfl
  have hp : Try.prog.stoodInHeld 135 = false := by kernel_rfl
  have dk : ∀ x y : ByteArray, decide (x = y) = decide (x.toList = y.toList) := fun x y => decide_eq_decide.2 ⟨fun e => by rw [e], bytes_ext⟩
  rw [run_eql_struct, show (10000 : Nat) = 9999 + 1 from rfl, run_equalIn_agg w 9999 135 _ _ hS hp]
  simp only [Program.fieldsOf, Try.underlying135]
  go_simp
  unfold kinB
  simp only [dk]
  by_cases h0 : s = t <;> by_cases h1 : n.toList = m.toList <;> simp [h0, h1]
theorem guardK : Try.prog.eqGuardType Try.prog.depth 135 = false := by kernel_rfl

set_option maxHeartbeats 4000000 in
theorem alike_any {w : World} {F : Nat → Prop} {b c : Nat} {x y : EntM} (hx : EntIn w F b x) (hy : EntIn w F c y) :
    Calls Try.prog 166 #[.pointer (some ⟨b, 0, none⟩), .pointer (some ⟨c, 0, none⟩)] w fun e w' => e = .returned (.bool (alikeM x y)) ∧ ∃ q, w' = w.drewN q := by
  obtain ⟨ao, ac, so, sc, h1, _, h2⟩ := hx.lies
  obtain ⟨ao', ac', so', sc', k1, _, k2⟩ := hy.lies
  have a1 : w.cell? ⟨b, 1, none⟩ = some (.int .i64 x.sp) := cell_of_row _ _ 1 _ _ _ h1
  have a2 : w.cell? ⟨b, 2, none⟩ = some (.string x.nm) := cell_of_row _ _ 2 _ _ _ h1
  have a3 : w.cell? ⟨b, 12, none⟩ = some (.slice so (setL x.tok.attrs).length sc) := cell_of_row _ _ 12 _ _ _ h1
  have b1 : w.cell? ⟨c, 1, none⟩ = some (.int .i64 y.sp) := cell_of_row _ _ 1 _ _ _ k1
  have b2 : w.cell? ⟨c, 2, none⟩ = some (.string y.nm) := cell_of_row _ _ 2 _ _ _ k1
  have b3 : w.cell? ⟨c, 12, none⟩ = some (.slice so' (setL y.tok.attrs).length sc') := cell_of_row _ _ 12 _ _ _ k1
  have hfew : (setL x.tok.attrs).length ≤ 2513169434916 := by
    have e1 := compA_len (sortA x.tok.attrs)
    rw [sortA_len] at e1
    have e2 := hx.few
    unfold setL
    omega
  have HE := hide (fun q => equal_any (w := w.drewN q) so so' sc sc' (setL x.tok.attrs) (setL y.tok.attrs) (h2.ins.below (below_dn (Below.refl _ _) q)) (k2.ins.below (below_dn (Below.refl _ _) q)) hfew)
  have hg := guardK
  have hk := fun W => eqlKin x.sp y.sp x.nm y.nm W
  have hund : undef = Value.tuple #[] := rfl
  unfold alikeM
  generalize setL x.tok.attrs = sx at *
  generalize setL y.tok.attrs = sy at *
  obtain ⟨xn, xs, xm, xt⟩ := x
  obtain ⟨yn, ys, ym, yt⟩ := y
  simp only at *
  clear hx hy h1 k1 h2 k2 hfew
  cases hkk : kinB xs ys xm ym with
  | false =>
    rw [hkk] at hk
    clear hkk
    go_enter Try.func166, Try.ntmps166
    go_wp2_with fail
    first | go_quiet (fail) | fail
    go_wp2
    go_ret
    exact ⟨rfl, _, rfl⟩
  | true =>
    rw [hkk] at hk
    clear hkk
    go_enter Try.func166, Try.ntmps166
    go_wp2_with fail
    go_quiet (first | (go_at_call 189; exact Calls.quiet_of ((unhide HE) _)))
    go_wp2
    go_ret
    exact ⟨rfl, _, rfl⟩
end Go.Proofs.Ytdabgeippkmgaaa
