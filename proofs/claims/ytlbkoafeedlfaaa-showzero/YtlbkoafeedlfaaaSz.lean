/-
  Proved: of no arena nothing is shown: ShowZero returns true for every number: Show answers an empty text and ErrZero, Same and Sound answer false.
  Conditions: none beyond the given row's own.
-/
import Derived.Test.YtlbkoafeedlfaaaRows
import Derived.WalkKit
import Derived.ProofKit
import Derived.OpenShut
import Derived.ShutString
import Derived.WalkSpells
import Derived.WalkLawsBesides
import Derived.Test.YtlbkoafeedlfaaaStk
import Derived.ChangeOld
import Derived.SizedLaws
import Derived.Lib.SmallJoins
namespace Go.Proofs.Ytlbkoafeedlfaaa.showZero
open Go.ChangeShapes Go.WideShapes Go.ChangeAt Go.RowKit
open Go.ChangeMaps (open_string shut_string)

theorem own : ownKnob Try.prog.godebug = none := by kernel_rfl

def zN : Value := .agg #[.int .i64 0, .int .i64 0, .string ⟨#[]⟩, .slice none 0 0, .string ⟨#[]⟩, .string ⟨#[]⟩, .int .i64 0, .int .i64 0, .int .i64 0, .int .i64 0, .int .i64 0, .int .i64 0]

theorem node_nil (id : Int) (w : World) :
    Calls Try.prog 18 #[.pointer none, .int .i64 id] w fun e w' => e = .returned (.tuple #[zN, .int .i64 7]) ∧
      w' = w.alloc (.cells #[.int .i64 0, .int .i64 0, .string ⟨#[]⟩, .slice none 0 0, .string ⟨#[]⟩, .string ⟨#[]⟩, .int .i64 0, .int .i64 0, .int .i64 0, .int .i64 0, .int .i64 0, .int .i64 0] 37) := by
  go_enter Try.func18, Try.ntmps18
  go_wp2_with go_in
  exact bodyPost_ret (v := .tuple #[zN, .int .i64 7]) (by simp [results, Try.results18, go_sem, zN]) rfl ⟨rfl, rfl⟩

theorem len_nil (w : World) : Calls Try.prog 17 #[.pointer none] w fun e w' => e = .returned (.int .i64 0) ∧ w' = w := by
  go_enter Try.func17, Try.ntmps17
  go_wp2_with go_in
  go_ret
  exact ⟨rfl, rfl⟩

theorem show_nil (id : Int) (w : World) :
    Calls Try.prog 28 #[.pointer none, .int .i64 id] w fun e w' => e = .returned (.tuple #[.string ⟨#[]⟩, .int .i64 7]) ∧ Below w.heap.size w w' := by
  go_enter Try.func28, Try.ntmps28
  go_wp2_with (first | (go_at_call 18; refine (node_nil _ _).mono ?_; rintro e w' ⟨rfl, rfl⟩; unfold zN))
  go_ret2
  exact ⟨rfl, ((Below.refl _ _).alloc (Nat.le_refl _) _).alloc (by simp) _⟩

theorem links_nil (w : World) :
    Calls Try.prog 87 #[.pointer none] w fun e w' => ∃ a c, e = .returned (.slice a 0 c) ∧ Below w.heap.size w w' := by
  have hmk : ∀ w, (Instr.makeSlice 70 (.int .i64 0) (.int .i64 0)).run Try.prog w = .ok (.slice (some ⟨w.heap.size, 0, none⟩) 0 0) (w.alloc (.cells #[] 37)) := fun _ => by kernel_rfl
  go_enter Try.func87, Try.ntmps87
  go_wp2_with (first | (go_at_call 17; refine (len_nil _).mono ?_; rintro e w' ⟨rfl, rfl⟩))
  go_loop [3, 12] (fun s i => (∃ a c, s = .slice a 0 c) ∧ i = .int .i64 0) (fun _ _ => 0)
  case atStart => exact ⟨⟨_, _, rfl⟩, rfl⟩
  case round =>
    obtain ⟨⟨a, c, rfl⟩, rfl⟩ := hrel
    go_wp2_with (first | (go_at_call 17; refine (len_nil _).mono ?_; rintro e w' ⟨rfl, rfl⟩))
    go_ret
    exact ⟨⟨_, _, rfl⟩, (Below.refl _ _).alloc (Nat.le_refl _) _⟩

theorem soundLinks_nil (w : World) (a : Option Addr) (c : Nat) :
    Calls Try.prog 86 #[.slice a 0 c] w fun e w' => e = .returned (.bool false) ∧ w' = w := by
  go_enter Try.func86, Try.ntmps86
  go_wp2_with fail
  go_ret
  exact ⟨rfl, rfl⟩

theorem sound_nil (w : World) :
    Calls Try.prog 33 #[.pointer none] w fun e w' => e = .returned (.bool false) ∧ Below w.heap.size w w' := by
  go_enter Try.func33, Try.ntmps33
  go_wp2_with (first | (go_at_call 87; refine (links_nil _).mono ?_; rintro e w1 ⟨a, c, rfl, hb⟩) | (go_at_call 86; refine (soundLinks_nil _ _ _).mono ?_; rintro e w' ⟨rfl, rfl⟩))
  go_ret
  exact ⟨rfl, hb⟩

theorem st_new (w : World) : StS (w.alloc (.cells #[.slice none 0 0] 125)) w.heap.size w.heap.size 125 128 2 0 [] (fun k => k = w.heap.size) :=
  ⟨.slice none 0 0, ⟨heap_alloc_new w _, World.ownsRow_nil _ _ _ _, Nat.le_refl _, by decide⟩, fun k => by simp [Value.ownBlock]⟩

set_option maxHeartbeats 1000000 in
theorem same_nil (id : Int) (w : World) :
    Calls Try.prog 31 #[.pointer none, .int .i64 id, .pointer none, .int .i64 id] w fun e w' => e = .returned (.bool false) ∧ Below w.heap.size w w' := by
  have HP := hide (push_pair (st_new w) id id (by omega))
  go_enter Try.func31, Try.ntmps31
  go_wp2_with (first | (go_at_call 82; refine (unhide HP).mono ?_; rintro e w1 ⟨rfl, F1, h1, hm1, hF1⟩; have H1 := hide h1; have HM1 := hide hm1; have HF1 := hide hF1; clear h1 hm1 hF1))
  have hB1 : Below w.heap.size w w1 := ((Below.refl _ w).alloc (Nat.le_refl _) _).trans ((unhide HM1).below (by simp) (fun k hk => Nat.le_of_eq hk.symm))
  have HE := hide (empty_pair (unhide H1))
  have HQ := hide (pop_pair (xs := []) (unhide H1) (by omega))
  have HFG := hide (show ∀ k, F1 k → w.heap.size ≤ k from fun k hk => ((unhide H1).lt hk).1)
  have HB1 := hide hB1
  clear hB1
  go_loop [11, 12, 13, 14, 15, 16, 22, 23, 24, 25, 26, 27, 28, 29, 30, 31, 32, 33, 34, 35, 36, 37, 38, 39] (fun t _ _ _ _ _ _ _ _ _ _ _ _ _ _ _ _ _ _ _ _ _ _ _ => t = .bool true) (fun _ _ _ _ _ _ _ _ _ _ _ _ _ _ _ _ _ _ _ _ _ _ _ _ => 0)
  case atStart => rfl
  case round =>
    subst hrel
    go_wp2_with (first
      | (go_at_call 83; refine (unhide HE).mono ?_; rintro e w' ⟨rfl, rfl⟩)
      | (go_at_call 84; refine (unhide HQ).mono ?_; rintro e w2 ⟨rfl, F2, h2, hm2, hF2⟩; have HM2 := hide hm2; clear h2 hm2 hF2)
      | (go_at_call 18; refine (node_nil _ _).mono ?_; rintro e w' ⟨rfl, rfl⟩; unfold zN))
    go_ret
    have hB2 : Below w.heap.size w w2 := (unhide HB1).trans ((unhide HM2).below (unhide HB1).size (unhide HFG))
    have hz := hB2.size
    exact ⟨rfl, by repeat (first | exact hB2 | refine Below.alloc ?_ (by first | omega | (simp; omega)) _)⟩

set_option maxHeartbeats 1000000 in
theorem walk (a0 : Int) (w : World) : Calls Try.prog 11 #[.int .i64 a0] w fun e w' => e = .returned (.bool true) ∧ Below w.heap.size w w' := by
  go_enter Try.func11, Try.ntmps11
  go_wp2_with (first
    | (go_at_call 28; refine (show_nil _ _).mono ?_; rintro e w1 ⟨rfl, hb1⟩; have HB1 := hide hb1; clear hb1)
    | (go_at_call 31; refine (same_nil _ _).mono ?_; rintro e w2 ⟨rfl, hb2⟩; have HB2 := hide hb2; clear hb2)
    | (go_at_call 33; refine (sound_nil _).mono ?_; rintro e w3 ⟨rfl, hb3⟩; have HB3 := hide hb3; clear hb3))
  go_ret
  exact ⟨rfl, (unhide HB1).trans (((unhide HB2).trans ((unhide HB3).mono (unhide HB2).size)).mono (unhide HB1).size)⟩

theorem laidOut : laidOutB Try.prog = true := by kernel_rfl

set_option maxRecDepth 100000 in
theorem lifted (os : Os) (started : os.Started) (H : Type) (enc : TypeId × Value → H) :
    ReturnsInHanded {} Try.checked os 11 .any (Rows.showZeroSpec.pre6 enc Try.prog Try.f11 Rows.showZeroRow.domain false) (Rows.showZeroSpec.post enc Try.prog Try.f11 false true false false) := by
  refine returnsInHanded_of_change_sized (C := Try.checked) own started (by kernel_rfl) Try.func11
    (ChangeSpec.witness6 (enc := enc) (C := Try.checked) false ⟨#[], #[.int .i64 0], []⟩ 8 (by kernel_rfl) (by kernel_rfl) (by kernel_rfl) (by kernel_rfl)) ?_
  intro W base args ds gs before hval0 hW hcnd hsz0 _
  have hval : ∀ (j : Nat) t v, Try.f11.params[j]? = some t → args[j]? = some v → Value.okWide Try.prog W .any base t v := hval0
  have hW' := hW
  obtain ⟨p, q, hA0, hV, rfl, hfz, hnd⟩ := hW
  have hA : DataW.TrodAll enc Try.prog W 0 (fun _ => true) true Try.f11.params.toList args.toList ds p := hA0
  rw [Try.params11] at hA hval
  obtain ⟨v0, vs0, d0, ds0, p0, q0, hargs, rfl, rfl, h0, r0⟩ := trodAll_cons hA
  obtain ⟨rfl, rfl, rfl⟩ := trodAll_nil r0
  obtain rfl : args = #[v0] := by cases args; simp_all
  obtain ⟨rfl, rfl⟩ := trodVars_none hV
  have k0 := h0
  have lt0 : ∀ x ∈ p0, x.block < W.heap.size := by obtain ⟨m, hm⟩ := k0; exact DataW.trod_lt m _ _ _ hm
  obtain ⟨m0, rfl, _, _, _⟩ := open_int Try.underlying3 (hval 0 3 v0 rfl rfl) h0
  clear hA0 hval0
  refine (walk m0 W).mono fun e W' ⟨he, bel⟩ => ?_
  subst he
  exact ⟨_, rfl, _, _, _, [], _, [], hW', trodAll_mk1 (shut_bool Try.underlying4 _), (trodAll_cons_mk (Below.trod laidOut (by kernel_rfl) (of_decide_eq_true (by kernel_rfl)) k0 bel lt0) trodAll_mk0), rfl, bel.frame _, fun h => by cases h⟩

theorem over : Rows.showZeroRow.holds Try.pinned (OpenSpec.ofChange Rows.showZeroSpec) :=
  OpenClaim.holds_of_wide 11 Try.f11 rfl rfl rfl rfl rfl rfl rfl ⟨rfl, rfl, rfl, rfl, rfl⟩ rfl rfl rfl rfl rfl (by kernel_rfl) Try.func11 (by kernel_rfl)
    (of_decide_eq_true (by kernel_rfl)) (by unfold Func.isWrapper; first | (rw [if_pos (by decide +kernel)]; kernel_rfl) | (rw [if_neg (by decide +kernel)]; exact ⟨rfl, rfl⟩))
    (fun os started H enc _ => lifted os started H enc)

end Go.Proofs.Ytlbkoafeedlfaaa.showZero
namespace Go.Proofs.Ytlbkoafeedlfaaa
theorem showZero_holds : Rows.ShowZeroSaid := showZero.over
end Go.Proofs.Ytlbkoafeedlfaaa
