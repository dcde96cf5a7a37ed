/-
  EntityNumbers: the walk.
-/
import Derived.Test.YtdhknaiggnafnaaUa
import Derived.Test.YtdhknaiggnafnaaTk
namespace Go.Proofs.Ytdhknaiggnafnaa
open Go.RowKit Go.Lib

theorem entityNumbers_walk (n : Int) (w : World) : Calls Try.prog 6 #[.int .i64 n] w fun e w' => e = .returned (.bool true) ∧ Below w.heap.size w w' := by
  have HF : Hid (∀ w, Calls Try.prog 17 #[.int .i64 n] w fun e w' => e = .returned (.tuple #[.int .i32 (numM n).1, .string (numM n).2]) ∧ Below w.heap.size w w') := hide (fun w => number_at n w)
  have HR : Hid (∀ w, Calls Try.prog 18 #[.int .i64 n] w fun e w' => e = .returned (.tuple #[.int .i32 (numM n).1, .string (numM n).2]) ∧ Below w.heap.size w w') := hide (fun w => refNum_any n w)
  have HA := hide awake_any
  generalize (numM n).1 = r at HF HR
  generalize (numM n).2 = t at HF HR
  have hq : (r == r) = true := beq_self_eq_true _
  have hqq : (t.toList == t.toList) = true := beq_self_eq_true _
  go_enter Try.func6, Try.ntmps6
  go_wp2_with (first
    | (go_at_call 17; refine (unhide HF _).mono ?_; rintro e w1 ⟨rfl, hw1⟩; have HW1 := hide hw1; clear hw1)
    | (go_at_call 18; refine (unhide HR _).mono ?_; rintro e w2 ⟨rfl, hw2⟩; have HW2 := hide hw2; clear hw2)
    | (go_at_call 12; refine (unhide HA _).mono ?_; rintro e w4 ⟨rfl, hw4⟩; have HW4 := hide hw4; clear hw4))
  go_ret
  refine ⟨rfl, ?_⟩
  have b1 := unhide HW1
  have b2 := b1.trans ((unhide HW2).mono b1.size)
  exact b2.trans ((unhide HW4).mono b2.size)
end Go.Proofs.Ytdhknaiggnafnaa
