/-
  Package active: the ranges over functions: elements, behindMarker.
-/
import Derived.Test.YtdabgeippkmgaaaLk
import Derived.RangeFuncNested
import Derived.RangeFuncBound
import Derived.RangeFuncCalls
import Derived.RangeFuncLeaves
import Derived.RangeFuncBox
import Derived.Shelf.RegionOpen
import Derived.OwnWalkIn
import Derived.TacticsInMore
import Derived.LoopNIn
import Derived.LoopIn
namespace Go.Proofs.Ytdabgeippkmgaaa
open Go.RowKit Go.Sort Go.Shelf
attribute [local go_sem] Oper.semAt_some

/-- The blocks of P lie as they lay. -/
def KeepP (P : Nat → Prop) (W W' : World) : Prop := ∀ k, P k → W'.heap[k]? = W.heap[k]?
theorem keepP_t {P : Nat → Prop} {A B C : World} (h : KeepP P A B) (k : KeepP P B C) : KeepP P A C := fun i hi => (k i hi).trans (h i hi)
theorem keepP_b {P : Nat → Prop} {w : World} (hP : ∀ k, P k → k < w.heap.size) (W : World) (l : Nat) (o o' : Obj) (hl : w.heap.size ≤ l) (_ : W.heap[l]? = some o) (_ : o.isCells = false) (_ : o.isWalk = false) : KeepP P W (W.putObj l o') := by
  intro k hk
  have := hP k hk
  have hne : l ≠ k := by omega
  simp [World.putObj, hne]

theorem RowM.keepP {w w' : World} {base bW : Nat} {F P : Nat → Prop} {v : Value} {ps : List Nat} {es : List EntM} (h : RowM w base bW F v ps es) (hP : ∀ k, F k → P k) (hk : KeepP P w w') : RowM w' base bW F v ps es :=
  ⟨(hk bW (hP _ h.fb)).trans h.box, ownsRow_kept h.own (fun k e => hk k (hP k (h.fv k e))), h.len, h.nodup, fun i b x hb hx => (h.ents i b x hb hx).keep (hk b (hP b (h.ents i b x hb hx).fb)) (fun k _ hf _ => hk k (hP k hf)), h.fb, h.fv, fun k hf => ⟨(h.lt k hf).1, by
    have e := hk k (hP k hf)
    rw [Array.getElem?_eq_getElem (h.lt k hf).2] at e
    exact (Array.getElem?_eq_some_iff.1 e).1⟩⟩

/-- The elements of the first entries, with their places. -/
def pairsN (es : List EntM) : Nat → List (Nat × Int)
  | 0 => []
  | n + 1 => pairsN es n ++ (match es[n]? with | some x => if x.node = -1 then [] else [(n, x.node)] | none => [])
theorem pairsN_pre (es : List EntM) : ∀ {m n : Nat}, m ≤ n → pairsN es m <+: pairsN es n
  | m, 0, h => by obtain rfl : m = 0 := by omega
                  exact List.prefix_rfl
  | m, n + 1, h => by
    by_cases e : m = n + 1
    · subst e; exact List.prefix_rfl
    · exact (pairsN_pre es (m := m) (n := n) (by omega)).trans (List.prefix_append _ _)

set_option maxRecDepth 100000 in
set_option maxHeartbeats 1000000 in
theorem elem1_in {base bW : Nat} {F : Nat → Prop} {v : Value} {ps : List Nat} {es : List EntM} (n : Nat) (hn : 1 ≤ n) (l Ba : Nat) (P : Nat → Prop) (hPf : ∀ k, F k → P k) (J Jx : List (Nat × Int) → World → Prop)
    (hY : ∀ pre x W, J pre W → pre.length < (pairsN es es.length).length → YieldAt Fence.wide (n - 1) Try.prog l #[.int .i64 ((x : Nat × Int).1 : Int), .int .i64 x.2] W fun e W' =>
      (e = .returned (.bool true) ∧ J (pre ++ [x]) W' ∧ KeepP P W W') ∨ (e = .returned (.bool false) ∧ Jx (pre ++ [x]) W'))
    (W : World) (hBa : W.heap[Ba]? = some (.cells #[.pointer (some ⟨bW, 0, none⟩)] 120 (0, 0))) (har : RowM W base bW F v ps es) (hl : es.length < 1000000000000)
    (h0 : J [] W) :
    CallsIn Fence.wide n Try.prog 162 #[.func (.yield l) #[] #[], .pointer (some ⟨Ba, 0, none⟩)] W fun e W' => (∃ v, e = .returned v) ∧
      ((∃ ys, ys = pairsN es es.length ∧ J ys W') ∨ (∃ pre, pre <+: pairsN es es.length ∧ Jx pre W')) := by
  have hcB := cell_of_one hBa
  have hcW := har.cell
  obtain ⟨va, vc, hv⟩ : ∃ va vc, v = .slice va es.length vc := by
    have := har.len
    rcases har.val with ⟨e, e2⟩ | ⟨g, cap, e⟩
    · subst e2; simp at this; exact ⟨none, 0, by rw [e, ← this]⟩
    · exact ⟨_, _, by rw [e, this]⟩
  subst hv
  refine callsIn_of_wp Try.func162 rfl trivial ?_ rfl
  simp only [Try.ntmps162, List.size_toArray, List.length_cons, List.length_nil, Nat.reduceAdd, Nat.reduceSub, Array.replicate_succ, Array.replicate_zero, List.push_toArray, List.append_toArray, List.nil_append, List.cons_append]
  have HBA := hide hBa
  have HAR := hide har
  have HL := hide hl
  clear hBa har hl
  gi_wp2
  gi_loopw [3, 4, 10] (fun _ _ p wr => ∃ m : Nat, p = .int .i64 (m : Int) ∧ m ≤ es.length ∧ J (pairsN es m) wr ∧ RowM wr base bW F (.slice va es.length vc) ps es)
    (fun _ _ p _ => es.length - (intOf p).toNat)
  case atStart => exact ⟨0, rfl, Nat.zero_le _, h0, unhide HAR⟩
  case round =>
    obtain ⟨m, rfl, hm, hJ, hrow⟩ := hrel
    have HJ := hide hJ
    have HR := hide hrow
    clear hJ hrow
    by_cases hme : m = es.length
    · subst hme
      have hz : ¬ (es.length : Int) < (es.length : Int) := by omega
      gi_wp2
      go_end0
      exact ⟨⟨_, rfl⟩, .inl (unhide HJ)⟩
    · have hmz : (m : Int) < (es.length : Int) := by omega
      have hm0 : (0 : Int) ≤ (m : Int) := by omega
      obtain ⟨x, hx⟩ : ∃ x, es[m]? = some x := ⟨_, List.getElem?_eq_getElem (by omega)⟩
      obtain ⟨g, cap, b, e, hg, hb, he⟩ := (unhide HR).at hx
      cases e
      unfold ptrV at hg
      have HM := hide (isMarker_any he)
      have HS : Hid (pairsN es (m + 1) = pairsN es m ++ (if x.node = -1 then [] else [(m, x.node)])) := hide (by rw [pairsN, hx])
      obtain ⟨ao, ac, so, sc, hblk, _⟩ := he.lies
      have hcn : wr.cell? ⟨b, 0, none⟩ = some (.int .i64 x.node) := cell_of_row _ _ 0 _ _ _ hblk
      clear hx hb he hblk
      cases hmk : (x.node == -1) with
      | true =>
        have e1 : x.node = -1 := eq_of_beq hmk
        rw [hmk] at HM
        rw [if_pos e1, List.append_nil] at HS
        clear hmk e1
        gi_wp2_with fail
        refine ⟨trivial, (callsIn_wide.2 (unhide HM)).mono ?_⟩
        rintro e w1 ⟨rfl, rfl⟩
        have hwr : IntKind.i64.wrap ((m : Int) + 1) = (m : Int) + 1 := by rw [IntKind.wrap_i64]; have := unhide HL; omega
        gi_wp2
        refine ⟨fun _ _ => trivial, ?_⟩
        gi_wp2
        go_roundw
        case rel => exact ⟨m + 1, by go_num, by omega, by rw [unhide HS]; exact unhide HJ, unhide HR⟩
        case measure =>
          have hi1 : (intOf (.int .i64 ((m : Int) + 1))).toNat = m + 1 := by simp only [intOf]; omega
          have hi2 : (intOf (.int .i64 (m : Int))).toNat = m := by simp only [intOf]; omega
          rw [hi1, hi2]
          omega
      | false =>
        have e1 : ¬ x.node = -1 := ne_of_beq_false hmk
        rw [hmk] at HM
        rw [if_neg e1] at HS
        clear hmk e1
        have hlen : (pairsN es m).length < (pairsN es es.length).length := by
          have h1 := (pairsN_pre es (m := m + 1) (n := es.length) (by omega)).length_le
          rw [unhide HS, List.length_append] at h1
          simp at h1
          omega
        have hpre9 : pairsN es (m + 1) <+: pairsN es es.length := pairsN_pre es (by omega)
        have HPRE := hide hpre9
        obtain ⟨fn, tmps, assign, body, hy, hR⟩ := hY (pairsN es m) (m, x.node) wr (unhide HJ) hlen
        clear hlen hpre9
        gi_wp2_with fail
        refine ⟨trivial, (callsIn_wide.2 (unhide HM)).mono ?_⟩
        rintro e w1 ⟨rfl, rfl⟩
        gi_wp2
        refine hR.mono ?_
        rintro e W3 (⟨rfl, hJ3, hk3⟩ | ⟨rfl, hJx3⟩)
        · have har3 := (unhide HR).keepP hPf hk3
          have HA3 := hide har3
          have HJ3 := hide hJ3
          have hwr : IntKind.i64.wrap ((m : Int) + 1) = (m : Int) + 1 := by rw [IntKind.wrap_i64]; have := unhide HL; omega
          clear har3 hJ3
          gi_wp2
          go_roundw
          case rel => exact ⟨m + 1, by go_num, by omega, by rw [unhide HS]; exact unhide HJ3, unhide HA3⟩
          case measure =>
            have hi1 : (intOf (.int .i64 ((m : Int) + 1))).toNat = m + 1 := by simp only [intOf]; omega
            have hi2 : (intOf (.int .i64 (m : Int))).toNat = m := by simp only [intOf]; omega
            rw [hi1, hi2]
            omega
        · gi_wp2
          refine bodyPost_ret (results_none rfl _ _ _) rfl ?_
          exact ⟨⟨_, rfl⟩, .inr ⟨pairsN es m ++ [(m, x.node)], by rw [← unhide HS]; exact unhide HPRE, hJx3⟩⟩
end Go.Proofs.Ytdabgeippkmgaaa
