/-
  Proved: whatever is picked, the tasks of each source come in the order in which they were posted, each once, and none is left: TaskOrder returns true for all sources and picks, and changes nothing.
  Conditions: none beyond the given row's own.
-/
import Derived.Test.YtdfcdgjmjionbaaTt
import Derived.Test.YtdfcdgjmjionbaaTo
import Derived.Test.YtdfcdgjmjionbaaRows
import Derived.ProofKit
import Derived.OpenShut
import Derived.ChangeMaps4
import Derived.SizedLaws
namespace Go.Proofs.Ytdfcdgjmjionbaa.taskOrder
open Go.ChangeShapes Go.WideShapes Go.ChangeAt Go.RowKit

theorem own : ownKnob Try.prog.godebug = none := by kernel_rfl

set_option maxRecDepth 100000 in
theorem lifted (os : Os) (started : os.Started) (H : Type) (enc : TypeId × Value → H) :
    ReturnsInHanded {} Try.checked os 4 .any (Rows.taskOrderSpec.pre6 enc Try.prog Try.f4 Rows.taskOrderRow.domain false) (Rows.taskOrderSpec.post enc Try.prog Try.f4 false true false false) := by
  refine returnsInHanded_of_change_sized (C := Try.checked) own started (by kernel_rfl) Try.func4
    (ChangeSpec.witness6 (enc := enc) (C := Try.checked) false ⟨#[], #[.slice none 0 0, .slice none 0 0], []⟩ 8 (by kernel_rfl) (by kernel_rfl) (by kernel_rfl) (by kernel_rfl)) ?_
  intro W base args ds gs before hval0 hW _ hszA _
  have hval : ∀ (j : Nat) t v, Try.f4.params[j]? = some t → args[j]? = some v → Value.okWide Try.prog W .any base t v := hval0
  have hsz0 : ∀ d, (ds ++ gs)[0]? = some d → (d.weights Try.prog 31).all (· ≤ reachBytes) = true := by
    intro d hd
    refine List.all_eq_true.2 fun n hn => List.all_eq_true.1 hszA n ?_
    exact DataW.weights_mem_each (j := 0) (t := 31) (d := d) (by rw [show Try.checked.prog = Try.prog from rfl, Try.params4]; rfl) hd n hn
  have hsz1 : ∀ d, (ds ++ gs)[1]? = some d → (d.weights Try.prog 42).all (· ≤ reachBytes) = true := by
    intro d hd
    refine List.all_eq_true.2 fun n hn => List.all_eq_true.1 hszA n ?_
    exact DataW.weights_mem_each (j := 1) (t := 42) (d := d) (by rw [show Try.checked.prog = Try.prog from rfl, Try.params4]; rfl) hd n hn
  have hW' := hW
  obtain ⟨p, q, hA0, hV, rfl, _, _⟩ := hW
  have hA : DataW.TrodAll enc Try.prog W 0 (fun _ => true) true Try.f4.params.toList args.toList ds p := hA0
  rw [Try.params4] at hA hval
  obtain ⟨v0, vs0, d0, ds0, p0, q0, hargs, rfl, rfl, h0, r0⟩ := trodAll_cons hA
  obtain ⟨v1, vs1, d1, ds1, p1, q1, rfl, rfl, rfl, h1, r1⟩ := trodAll_cons r0
  obtain ⟨rfl, rfl, rfl⟩ := trodAll_nil r1
  obtain rfl : args = #[v0, v1] := by cases args; simp_all
  obtain ⟨rfl, rfl⟩ := trodVars_none hV
  obtain ⟨a0, len0, cap0, rfl⟩ := okWide_slice Try.underlying31 (hval 0 31 v0 rfl rfl)
  have k0 := h0
  have lt0 : ∀ x ∈ p0, x.block < W.heap.size := by obtain ⟨m, hm⟩ := k0; exact DataW.trod_lt m _ _ _ hm
  obtain ⟨l0, rfl, in0, n0⟩ := bytes_open h0 (hsz0 d0 rfl)
  obtain ⟨a1, len1, cap1, rfl⟩ := okWide_slice Try.underlying42 (hval 1 42 v1 rfl rfl)
  have k1 := h1
  have lt1 : ∀ x ∈ p1, x.block < W.heap.size := by obtain ⟨m, hm⟩ := k1; exact DataW.trod_lt m _ _ _ hm
  obtain ⟨l1, rfl, in1, n1⟩ := ints_open h1 (hsz1 d1 rfl)
  clear hA0 hval0
  refine (order_walk l0 a0 cap0 l1 a1 cap1 W in0 n0 in1 n1).mono fun e W' ⟨he, bel⟩ => ?_
  subst he
  exact ⟨_, rfl, _, _, _, [], _, [], hW', trodAll_mk1 (shut_bool Try.underlying4 _), (trodAll_cons_mk (Below.trod laidOut (by kernel_rfl) (of_decide_eq_true (by kernel_rfl)) k0 bel lt0) (trodAll_cons_mk (Below.trod laidOut (by kernel_rfl) (of_decide_eq_true (by kernel_rfl)) k1 bel lt1) trodAll_mk0)), rfl, bel.frame _, fun h => by cases h⟩

theorem over : Rows.taskOrderRow.holds Try.pinned (OpenSpec.ofChange Rows.taskOrderSpec) :=
  OpenClaim.holds_of_wide 4 Try.f4 rfl rfl rfl rfl rfl rfl rfl ⟨rfl, rfl, rfl, rfl, rfl⟩ rfl rfl rfl rfl rfl (by kernel_rfl) Try.func4 (by kernel_rfl)
    (of_decide_eq_true (by kernel_rfl)) (by unfold Func.isWrapper; first | (rw [if_pos (by decide +kernel)]; kernel_rfl) | (rw [if_neg (by decide +kernel)]; exact ⟨rfl, rfl⟩))
    (fun os started H enc _ => lifted os started H enc)
end Go.Proofs.Ytdfcdgjmjionbaa.taskOrder
namespace Go.Proofs.Ytdfcdgjmjionbaa
theorem taskOrder_holds : Rows.TaskOrderSaid := taskOrder.over
#print axioms taskOrder_holds
end Go.Proofs.Ytdfcdgjmjionbaa
