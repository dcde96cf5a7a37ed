/-
  StackPops' walk.
-/
import Derived.Test.YtmllhebmaldgfaaXQf
import Derived.Test.YtmllhebmaldgfaaXQg
import Derived.Test.YtmllhebmaldgfaaXQh
import Derived.Test.YtmllhebmaldgfaaXQi
import Derived.Test.YtmllhebmaldgfaaXQj
namespace Go.Proofs.Ytmllhebmaldgfaa
open Go.RowKit

theorem pops_walk (l : List Cal) (a : Option Addr) (cap : Nat) (name : ByteArray) (w : World) (hin : ElsIn w a l) (hl : l.length ≤ 140737488351232) :
    Calls Try.prog 5 #[.slice a l.length cap, .string name] w fun e w' => e = .returned (.bool true) ∧ Below w.heap.size w w' := by
  cases hp : popToI (ksL l) (elsTo (ksL l) (max 1 ((ksL l).length - 1))) name with
  | none =>
    rcases imp_cases (good_els (ksL l) (max 1 ((ksL l).length - 1))) name with h10 | ⟨m, x, sp, nm, hm1e, _, htop, hkey, hstop⟩
    · exact pops_n0 l a cap name w hin hl _ rfl _ rfl hp h10
    · cases hs1 : (sp == 0) with
      | false => exact pops_na l a cap name w hin hl _ rfl _ rfl hp m x sp nm hm1e htop hkey hstop hs1
      | true =>
        cases ha1 : (nm.toList == [112]) with
        | true => exact pops_nb l a cap name w hin hl _ rfl _ rfl hp m x sp nm hm1e htop hkey hstop hs1 ha1
        | false =>
          cases ha2 : (nm.toList == [108, 105]) with
          | true => exact pops_nc l a cap name w hin hl _ rfl _ rfl hp m x sp nm hm1e htop hkey hstop hs1 ha1 ha2
          | false => exact pops_nd l a cap name w hin hl _ rfl _ rfl hp m x sp nm hm1e htop hkey hstop hs1 ha1 ha2
  | some j =>
    rcases imp_cases (good_els (ksL l) (max 1 ((ksL l).length - 1))) name with h10 | ⟨m, x, sp, nm, hm1e, _, htop, hkey, hstop⟩
    · exact pops_s0 l a cap name w hin hl _ rfl _ rfl j hp h10
    · cases hs1 : (sp == 0) with
      | false => exact pops_sa l a cap name w hin hl _ rfl _ rfl j hp m x sp nm hm1e htop hkey hstop hs1
      | true =>
        cases ha1 : (nm.toList == [112]) with
        | true => exact pops_sb l a cap name w hin hl _ rfl _ rfl j hp m x sp nm hm1e htop hkey hstop hs1 ha1
        | false =>
          cases ha2 : (nm.toList == [108, 105]) with
          | true => exact pops_sc l a cap name w hin hl _ rfl _ rfl j hp m x sp nm hm1e htop hkey hstop hs1 ha1 ha2
          | false => exact pops_sd l a cap name w hin hl _ rfl _ rfl j hp m x sp nm hm1e htop hkey hstop hs1 ha1 ha2
end Go.Proofs.Ytmllhebmaldgfaa
