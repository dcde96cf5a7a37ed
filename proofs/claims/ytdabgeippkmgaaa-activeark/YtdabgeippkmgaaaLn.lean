/-
  Package active: the entries behind the last marker, from the last one back; the last element of a name; how many are alike.
-/
import Derived.Test.YtdabgeippkmgaaaLm
namespace Go.Proofs.Ytdabgeippkmgaaa
open Go.RowKit Go.Sort Go.Shelf
attribute [local go_sem] Oper.semAt_some

/-- An entry of a row: its place there, its place in memory. -/
structure BP (es : List EntM) (ps : List Nat) where
  i : Nat
  b : Nat
  x : EntM
  hx : es[i]? = some x
  hb : ps[i]? = some b
/-- The entries behind the last marker among the first ones, from the last one back. -/
def behN (es : List EntM) (ps : List Nat) : Nat → List (BP es ps)
  | 0 => []
  | i + 1 => match hx : es[i]?, hb : ps[i]? with
    | some x, some b => if x.node = -1 then [] else ⟨i, b, x, hx, hb⟩ :: behN es ps i
    | _, _ => []
theorem behN_succ {es : List EntM} {ps : List Nat} {i b : Nat} {x : EntM} (hx : es[i]? = some x) (hb : ps[i]? = some b) : behN es ps (i + 1) = if x.node = -1 then [] else ⟨i, b, x, hx, hb⟩ :: behN es ps i := by
  conv => lhs; unfold behN
  split
  · rename_i x' b' hx' hb'
    have e1 : x' = x := by rw [hx'] at hx; exact Option.some.inj hx
    have e2 : b' = b := by rw [hb'] at hb; exact Option.some.inj hb
    subst e1 e2
    rfl
  · rename_i h
    exact (h x b hx hb).elim

set_option maxRecDepth 100000 in
set_option maxHeartbeats 1000000 in
theorem beh1_in {base bW : Nat} {F : Nat → Prop} {v : Value} {ps : List Nat} {es : List EntM} (n : Nat) (hn : 1 ≤ n) (l Ba : Nat) (P : Nat → Prop) (hPf : ∀ k, F k → P k) (hPa : P Ba) (J Jx : List (BP es ps) → World → Prop)
    (hY : ∀ pre x W, J pre W → pre.length < (behN es ps es.length).length → YieldAt Fence.wide (n - 1) Try.prog l #[.int .i64 ((x : BP es ps).i : Int), ptrV x.b] W fun e W' =>
      (e = .returned (.bool true) ∧ J (pre ++ [x]) W' ∧ KeepP P W W') ∨ (e = .returned (.bool false) ∧ Jx (pre ++ [x]) W'))
    (W : World) (hBa : W.heap[Ba]? = some (.cells #[.pointer (some ⟨bW, 0, none⟩)] 120 (0, 0))) (har : RowM W base bW F v ps es) (hl : es.length < 1000000000000)
    (h0 : J [] W) :
    CallsIn Fence.wide n Try.prog 167 #[.func (.yield l) #[] #[], .pointer (some ⟨Ba, 0, none⟩)] W fun e W' => (∃ v, e = .returned v) ∧
      ((∃ ys, ys = behN es ps es.length ∧ J ys W') ∨ (∃ pre, pre <+: behN es ps es.length ∧ Jx pre W')) := by
  have hcB := cell_of_one hBa
  have hcW := har.cell
  obtain ⟨va, vc, hv⟩ : ∃ va vc, v = .slice va es.length vc := by
    have := har.len
    rcases har.val with ⟨e, e2⟩ | ⟨g, cap, e⟩
    · subst e2; simp at this; exact ⟨none, 0, by rw [e, ← this]⟩
    · exact ⟨_, _, by rw [e, this]⟩
  subst hv
  have hwl : IntKind.i64.wrap ((es.length : Int) - 1) = (es.length : Int) - 1 := by rw [IntKind.wrap_i64]; omega
  refine callsIn_of_wp Try.func167 rfl trivial ?_ rfl
  simp only [Try.ntmps167, List.size_toArray, List.length_cons, List.length_nil, Nat.reduceAdd, Nat.reduceSub, Array.replicate_succ, Array.replicate_zero, List.push_toArray, List.append_toArray, List.nil_append, List.cons_append]
  have HBA := hide hBa
  have HAR := hide har
  have HL := hide hl
  clear hBa har hl
  gi_wp2
  clear hcB hcW
  gi_loopw [3] (fun p wr => ∃ (m : Nat) (pre : List (BP es ps)), p = .int .i64 ((m : Int) - 1) ∧ m ≤ es.length ∧ pre ++ behN es ps m = behN es ps es.length ∧ J pre wr ∧ RowM wr base bW F (.slice va es.length vc) ps es ∧ wr.heap[Ba]? = some (.cells #[.pointer (some ⟨bW, 0, none⟩)] 120 (0, 0)))
    (fun p _ => (intOf p + 1).toNat)
  case atStart => exact ⟨es.length, [], by go_num, Nat.le_refl _, rfl, h0, unhide HAR, unhide HBA⟩
  case round =>
    obtain ⟨m, pre, rfl, hm, hpre, hJ, hrow, hba⟩ := hrel
    have HJ := hide hJ
    have HR := hide hrow
    have HB := hide hba
    have HP := hide hpre
    have hcB := cell_of_one hba
    have hcW := hrow.cell
    clear hJ hrow hba hpre
    cases m with
    | zero =>
      have hm1 : ((0 : Nat) : Int) - 1 = -1 := by omega
      rw [hm1]
      clear hm1
      gi_wp2
      go_end0
      have e := unhide HP
      simp only [behN, List.append_nil] at e
      exact ⟨⟨_, rfl⟩, .inl ⟨pre, e, unhide HJ⟩⟩
    | succ i =>
      have hm1 : ((i + 1 : Nat) : Int) - 1 = (i : Int) := by omega
      rw [hm1]
      have hmz : (i : Int) < (es.length : Int) := by omega
      have hm0 : (0 : Int) ≤ (i : Int) := by omega
      have hwi : IntKind.i64.wrap ((i : Int) - 1) = (i : Int) - 1 := by rw [IntKind.wrap_i64]; have := unhide HL; omega
      obtain ⟨x, hx⟩ : ∃ x, es[i]? = some x := ⟨_, List.getElem?_eq_getElem (by omega)⟩
      obtain ⟨g, cap, b, e, hg, hb, he⟩ := (unhide HR).at hx
      cases e
      unfold ptrV at hg
      have HM := hide (isMarker_any he)
      have HS : Hid (behN es ps (i + 1) = if x.node = -1 then [] else ⟨i, b, x, hx, hb⟩ :: behN es ps i) := hide (behN_succ hx hb)
      have hbx : ∃ p : BP es ps, p = ⟨i, b, x, hx, hb⟩ := ⟨_, rfl⟩
      obtain ⟨p, hp⟩ := hbx
      rw [← hp] at HS
      have hpi : p.i = i := by rw [hp]
      have hpb : p.b = b := by rw [hp]
      clear hm1 he hp
      cases hmk : (x.node == -1) with
      | true =>
        have e1 : x.node = -1 := eq_of_beq hmk
        rw [hmk] at HM
        rw [if_pos e1] at HS
        clear hmk e1 hpi hpb hx hb
        gi_wp2_with fail
        refine ⟨trivial, (callsIn_wide.2 (unhide HM)).mono ?_⟩
        rintro e w1 ⟨rfl, rfl⟩
        gi_wp2
        refine ⟨fun _ _ => trivial, ?_⟩
        gi_wp2
        refine bodyPost_ret (results_none rfl _ _ _) rfl ?_
        have e := unhide HP
        rw [unhide HS, List.append_nil] at e
        exact ⟨⟨_, rfl⟩, .inl ⟨pre, e, unhide HJ⟩⟩
      | false =>
        have e1 : ¬ x.node = -1 := ne_of_beq_false hmk
        rw [hmk] at HM
        rw [if_neg e1] at HS
        clear hmk e1
        have hlen : pre.length < (behN es ps es.length).length := by
          rw [← unhide HP, unhide HS]; simp
        obtain ⟨fn, tmps, assign, body, hy, hR⟩ := hY pre p wr (unhide HJ) hlen
        rw [hpi, hpb] at hy
        clear hpi hpb
        unfold ptrV at hy
        clear hlen hx hb
        gi_wp2_with fail
        refine ⟨trivial, (callsIn_wide.2 (unhide HM)).mono ?_⟩
        rintro e w1 ⟨rfl, rfl⟩
        gi_wp2
        refine hR.mono ?_
        rintro e W3 (⟨rfl, hJ3, hk3⟩ | ⟨rfl, hJx3⟩)
        · have har3 := (unhide HR).keepP hPf hk3
          have hba3 := (hk3 Ba hPa).trans (unhide HB)
          have HA3 := hide har3
          have HJ3 := hide hJ3
          have HB3 := hide hba3
          clear har3 hJ3 hba3
          gi_wp2
          go_roundw
          case rel => exact ⟨i, pre ++ [p], by go_num, by omega, by rw [← unhide HP, unhide HS]; simp, unhide HJ3, unhide HA3, unhide HB3⟩
          case measure => simp only [intOf]; omega
        · gi_wp2
          refine bodyPost_ret (results_none rfl _ _ _) rfl ?_
          exact ⟨⟨_, rfl⟩, .inr ⟨pre ++ [p], ⟨behN es ps i, by rw [← unhide HP, unhide HS]; simp⟩, hJx3⟩⟩
end Go.Proofs.Ytdabgeippkmgaaa
