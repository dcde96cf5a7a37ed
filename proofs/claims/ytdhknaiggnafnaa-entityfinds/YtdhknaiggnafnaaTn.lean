/-
  EntityFinds: the walk.
-/
import Derived.Test.YtdhknaiggnafnaaTm
namespace Go.Proofs.Ytdhknaiggnafnaa
open Go.RowKit Go.Lib

theorem entityFinds_walk (s : ByteArray) (w : World) : Calls Try.prog 3 #[.string s] w fun e w' => e = .returned (.bool true) ∧ Below w.heap.size w w' := by
  have HF := hide (fun w => find_any s w)
  have HR := hide (fun w => by have := refFind_any s w; rw [← find_ref] at this; exact this)
  have HP := hide (pts_short s)
  have HA := hide awake_any
  generalize findM s = m at HF HR HP
  obtain ⟨q, hq⟩ : ∃ q : Bool, m.isSome = q := ⟨_, rfl⟩
  have hqq : (q == q) = true := by cases q <;> rfl
  have HQ := hide hq
  clear hq
  go_enter Try.func3, Try.ntmps3
  go_wp2_with (first
    | (go_at_call 9; refine (unhide HF _).mono ?_; rintro e w1 ⟨v1, rfl, hv1, hw1⟩; rw [unhide HQ]; have HV1 := hide hv1; have HW1 := hide hw1; clear hv1 hw1)
    | (go_at_call 10; refine (unhide HR _).mono ?_; rintro e w2 ⟨v2, rfl, hv2, hw2⟩; rw [unhide HQ]; have HV2 := hide hv2; have HW2 := hide hw2; clear hv2 hw2)
    | (go_at_call 11; refine (runes_any _ (m.getD []) (m.getD []) _ _ ((unhide HV1).keep (unhide HW2)) (unhide HV2) (unhide HP) (unhide HP)).mono ?_; rintro e w3 ⟨rfl, hw3⟩; rw [decide_eq_true rfl]; have HW3 := hide hw3; clear hw3)
    | (go_at_call 12; refine (unhide HA _).mono ?_; rintro e w4 ⟨rfl, hw4⟩; have HW4 := hide hw4; clear hw4))
  go_ret
  refine ⟨rfl, ?_⟩
  have b1 := unhide HW1
  have b2 := b1.trans ((unhide HW2).mono b1.size)
  have b3 := b2.trans ((unhide HW3).mono b2.size)
  exact b3.trans ((unhide HW4).mono b3.size)
end Go.Proofs.Ytdhknaiggnafnaa
