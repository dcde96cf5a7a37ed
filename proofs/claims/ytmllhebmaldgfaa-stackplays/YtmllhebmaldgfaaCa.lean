/-
  What an element of a stack is called.
-/
import Derived.Test.YtmllhebmaldgfaaAdd
import Derived.Deep.LoopGhost
namespace Go.Proofs.Ytmllhebmaldgfaa
open Go.RowKit

structure Cal where
  space : Int
  name : ByteArray
def Cal.agg (c : Cal) : Value := .agg #[.int .i64 c.space, .string c.name]
def cal0 : Cal := ⟨0, ⟨#[]⟩⟩
end Go.Proofs.Ytmllhebmaldgfaa
