/-
  The walk of ClassZero.
-/
import Derived.Test.YtmdjdoochgloaaaDoorZa
namespace Go.Proofs.YtmdjdoochgloaaaDoor
open Go.RowKit

set_option maxRecDepth 100000 in
set_option maxHeartbeats 4000000 in
theorem classZero_walk (s : ByteArray) (w : World) : Calls Tryd.prog 3 #[.string s] w fun e w' => e = .returned (.bool true) ∧ Below w.heap.size w w' := by
  have hsz : (0 : Int) ≤ (s.size : Int) := by omega
  go_enter Tryd.func3, Tryd.ntmps3
  go_wp2_with (first
    | (go_at_call 4; go_must (refine (text_nil _).mono ?_); rintro e w' ⟨rfl, hb⟩; have HB := hide hb; clear hb)
    | (go_at_call 5; go_must (refine (in_nil _).mono ?_); rintro e w2 ⟨rfl, hb⟩; have HB2 := hide ((unhide HB).trans (hb.mono (unhide HB).size)); clear hb))
  go_ret
  exact ⟨rfl, unhide HB2⟩
end Go.Proofs.YtmdjdoochgloaaaDoor
