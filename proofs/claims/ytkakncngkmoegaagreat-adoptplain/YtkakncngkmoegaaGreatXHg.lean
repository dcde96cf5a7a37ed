import Derived.Test.YtkakncngkmoegaaGreatXHe0
import Derived.Test.YtkakncngkmoegaaGreatXHe1
import Derived.Test.YtkakncngkmoegaaGreatXHe2
import Derived.Test.YtkakncngkmoegaaGreatXHe3
/-
  AdoptPlain, walked.
-/
namespace Go.Proofs.YtkakncngkmoegaaGreat
open Go.RowKit

theorem aplain_walk (d nm : Int) (hd : 0 ≤ d ∧ d ≤ 255) (hn : 0 ≤ nm ∧ nm ≤ 255) (w : World) : Calls Tryz.prog 5 #[.int .u8 d, .int .u8 nm] w fun e w' => e = .returned (.bool true) ∧ Below w.heap.size w w' := by
  have h0 := Int.tmod_nonneg 4 hn.1
  have h1 := Int.tmod_lt_of_pos nm (show (0 : Int) < 4 by omega)
  rcases (show nm.tmod 4 = 0 ∨ nm.tmod 4 = 1 ∨ nm.tmod 4 = 2 ∨ nm.tmod 4 = 3 by omega) with e | e | e | e
  · exact aplain_0 d nm hd e w
  · exact aplain_1 d nm hd e w
  · exact aplain_2 d nm hd e w
  · exact aplain_3 d nm hd e w
end Go.Proofs.YtkakncngkmoegaaGreat
