import Derived.Test.YtgmlngmfocdmhaaNd
/-
  Borders of the scopes.
-/
namespace Go.Proofs.Ytgmlngmfocdmhaa
open Go.RowKit

def olB : ByteArray := ⟨#[111, 108]⟩
def ulB : ByteArray := ⟨#[117, 108]⟩
def buttonB : ByteArray := ⟨#[98, 117, 116, 116, 111, 110]⟩
def optgroupB : ByteArray := ⟨#[111, 112, 116, 103, 114, 111, 117, 112]⟩
def optionB : ByteArray := ⟨#[111, 112, 116, 105, 111, 110]⟩

def borderM (c : Cal) (k : Int) : Bool :=
  if k = 0 then plainM c
  else if k = 1 then plainM c || namedM c olB || namedM c ulB
  else if k = 2 then plainM c || namedM c buttonB
  else if k = 3 then amongM c 0 tblT
  else !namedM c optgroupB && !namedM c optionB

theorem below_box {w w1 : World} {o : Obj} (hb : Below (w.alloc o).heap.size (w.alloc o) w1) : Below w.heap.size w w1 := (below_new w o).trans (hb.mono (by simp))
theorem calls_more {f : Nat} {args : Array Value} {W w1 : World} {v : Value} (hb : Below W.heap.size W w1) (h : Calls Try.prog f args w1 fun e w' => e = .returned v ∧ Below w1.heap.size w1 w') : Calls Try.prog f args w1 fun e w' => e = .returned v ∧ Below W.heap.size W w' :=
  h.mono fun _ _ ⟨a, b⟩ => ⟨a, hb.trans (b.mono hb.size)⟩

end Go.Proofs.Ytgmlngmfocdmhaa
