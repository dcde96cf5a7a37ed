/-
  Proved: what is written at a mark comes, in the order of the writes, ahead of all that waited there: InputWrites returns true for all code points and writes, and changes nothing.
  Conditions: none beyond the given row's own.
-/
import Derived.Test.YtlhebbhpcepfhaaPt
import Derived.Test.YtlhebbhpcepfhaaOa
import Derived.Test.YtlhebbhpcepfhaaRows
import Derived.ProofKit
import Derived.OpenShut
import Derived.SizedLaws
namespace Go.Proofs.Ytlhebbhpcepfhaa.inputWrites
open Go.ChangeShapes Go.WideShapes Go.ChangeAt Go.RowKit

theorem own : ownKnob Try.prog.godebug = none := by kernel_rfl

set_option maxRecDepth 100000 in
theorem lifted (os : Os) (started : os.Started) (H : Type) (enc : TypeId × Value → H) :
    ReturnsInHanded {} Try.checked os 5 .any (Rows.inputWritesSpec.pre6 enc Try.prog Try.f5 Rows.inputWritesRow.domain false) (Rows.inputWritesSpec.post enc Try.prog Try.f5 false true false false) := by
  refine returnsInHanded_of_change_sized (C := Try.checked) own started (by kernel_rfl) Try.func5
    (ChangeSpec.witness6 (enc := enc) (C := Try.checked) false ⟨#[], #[.slice none 0 0, .slice none 0 0], []⟩ 8 (by kernel_rfl) (by kernel_rfl) (by kernel_rfl) (by kernel_rfl)) ?_
  intro W base args ds gs before hval0 hW _ hszA _
  have hval : ∀ (j : Nat) t v, Try.f5.params[j]? = some t → args[j]? = some v → Value.okWide Try.prog W .any base t v := hval0
  have hsz0 : ∀ d, (ds ++ gs)[0]? = some d → (d.weights Try.prog 28).all (· ≤ reachBytes) = true := by
    intro d hd
    refine List.all_eq_true.2 fun n hn => List.all_eq_true.1 hszA n ?_
    exact DataW.weights_mem_each (j := 0) (t := 28) (d := d) (by rw [show Try.checked.prog = Try.prog from rfl, Try.params5]; rfl) hd n hn
  have hsz1 : ∀ d, (ds ++ gs)[1]? = some d → (d.weights Try.prog 45).all (· ≤ reachBytes) = true := by
    intro d hd
    refine List.all_eq_true.2 fun n hn => List.all_eq_true.1 hszA n ?_
    exact DataW.weights_mem_each (j := 1) (t := 45) (d := d) (by rw [show Try.checked.prog = Try.prog from rfl, Try.params5]; rfl) hd n hn
  have hW' := hW
  obtain ⟨p, q, hA0, hV, rfl, _, _⟩ := hW
  have hA : DataW.TrodAll enc Try.prog W 0 (fun _ => true) true Try.f5.params.toList args.toList ds p := hA0
  rw [Try.params5] at hA hval
  obtain ⟨v0, vs0, d0, ds0, p0, q0, hargs, rfl, rfl, h0, r0⟩ := trodAll_cons hA
  obtain ⟨v1, vs1, d1, ds1, p1, q1, rfl, rfl, rfl, h1, r1⟩ := trodAll_cons r0
  obtain ⟨rfl, rfl, rfl⟩ := trodAll_nil r1
  obtain rfl : args = #[v0, v1] := by cases args; simp_all
  obtain ⟨rfl, rfl⟩ := trodVars_none hV
  obtain ⟨a0, len0, cap0, rfl⟩ := okWide_slice Try.underlying28 (hval 0 28 v0 rfl rfl)
  have k0 := h0
  have lt0 : ∀ x ∈ p0, x.block < W.heap.size := by obtain ⟨m, hm⟩ := k0; exact DataW.trod_lt m _ _ _ hm
  obtain ⟨l0, rfl, c0, b0⟩ := runes_open h0 (hsz0 d0 rfl)
  obtain ⟨a1, len1, cap1, rfl⟩ := okWide_slice Try.underlying45 (hval 1 45 v1 rfl rfl)
  have k1 := h1
  have lt1 : ∀ x ∈ p1, x.block < W.heap.size := by obtain ⟨m, hm⟩ := k1; exact DataW.trod_lt m _ _ _ hm
  obtain ⟨l1, rfl, c1, b1⟩ := rows_open h1 (hsz1 d1 rfl)
  clear hA0 hval0
  refine (inputWrites_walk W a0 l0 cap0 c0 b0 a1 l1 cap1 c1 b1).mono fun e W' ⟨he, bel⟩ => ?_
  subst he
  exact ⟨_, rfl, _, _, _, [], _, [], hW', trodAll_mk1 (shut_bool Try.underlying4 _), (trodAll_cons_mk (Below.trod laidOut (by kernel_rfl) (of_decide_eq_true (by kernel_rfl)) k0 bel lt0) (trodAll_cons_mk (Below.trod laidOut (by kernel_rfl) (of_decide_eq_true (by kernel_rfl)) k1 bel lt1) trodAll_mk0)), rfl, bel.frame _, fun h => by cases h⟩

theorem over : Rows.inputWritesRow.holds Try.pinned (OpenSpec.ofChange Rows.inputWritesSpec) :=
  OpenClaim.holds_of_wide 5 Try.f5 rfl rfl rfl rfl rfl rfl rfl ⟨rfl, rfl, rfl, rfl, rfl⟩ rfl rfl rfl rfl rfl (by kernel_rfl) Try.func5 (by kernel_rfl)
    (of_decide_eq_true (by kernel_rfl)) (by unfold Func.isWrapper; first | (rw [if_pos (by decide +kernel)]; kernel_rfl) | (rw [if_neg (by decide +kernel)]; exact ⟨rfl, rfl⟩))
    (fun os started H enc _ => lifted os started H enc)
end Go.Proofs.Ytlhebbhpcepfhaa.inputWrites
namespace Go.Proofs.Ytlhebbhpcepfhaa
theorem inputWrites_holds : Rows.InputWritesSaid := inputWrites.over
#print axioms inputWrites_holds
end Go.Proofs.Ytlhebbhpcepfhaa
