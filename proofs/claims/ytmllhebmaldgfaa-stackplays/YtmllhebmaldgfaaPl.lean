import Derived.Test.YtmllhebmaldgfaaFull2
import Derived.Deep.LoopGhost
/-
  Plain nodes of the document's arena; what a node more makes of them.
-/
namespace Go.Proofs.Ytmllhebmaldgfaa
open Go.RowKit

structure OneM where
  kind : Int
  space : Int
  name : ByteArray
  data : ByteArray
  system : ByteArray
  inner : Int
  host : Int
  up : Int
  attrs : List AttrM
  kids : List Nat

def oneM (k : Int) : OneM := { kind := k, space := 0, name := ⟨#[]⟩, data := ⟨#[]⟩, system := ⟨#[]⟩, inner := -1, host := -1, up := -1, attrs := [], kids := [] }
def hasO (os : List OneM) (k : Int) : Bool := decide (0 ≤ k ∧ k < os.length)
theorem hasO_yes {os : List OneM} {k : Int} (h : hasO os k = true) : ∃ (i : Nat) (o : OneM), k = (i : Int) ∧ os[i]? = some o := by
  have h1 := of_decide_eq_true h
  exact ⟨k.toNat, os[k.toNat]'(by omega), by omega, List.getElem?_eq_getElem (by omega)⟩
theorem hasO_of {os : List OneM} {i : Nat} {o : OneM} (h : os[i]? = some o) : hasO os (i : Int) = true := by
  have := (List.getElem?_eq_some_iff.1 h).1
  exact decide_eq_true (by omega)
def dataQ (kind : Int) (s : ByteArray) : OneM := { oneM kind with data := s }
def elemQ (space : Int) (name : ByteArray) (l : List AttrM) : OneM := { oneM 1 with space := space, name := name, attrs := l }
/-- A node more, if there is room: the nodes, its number, the error. -/
def addO (os : List OneM) (q : OneM) : List OneM × Int × Int := if os.length + 1 ≤ 32768 then (os ++ [q], (os.length : Int), 0) else (os, 0, 9)
def dataO (os : List OneM) (kind : Int) (s : ByteArray) : List OneM × Int × Int := if longS s then (os, 0, 2) else addO os (dataQ kind s)
def fragO (os : List OneM) : List OneM × Int × Int := addO os (oneM 5)
def elemO (os : List OneM) (space : Int) (name : ByteArray) (l : List AttrM) : List OneM × Int × Int :=
  if space < 0 ∨ 2 < space then (os, 0, 1)
  else if longE name l then (os, 0, 2)
  else if space = 0 ∧ isT name = true then
    (if os.length + 2 ≤ 32768 then (os ++ [{ elemQ space name l with inner := (os.length : Int) + 1 }, { oneM 5 with host := (os.length : Int) }], (os.length : Int), 0) else (os, 0, 9))
  else addO os (elemQ space name l)

theorem Try.info3 : (Try.prog.info? 3).map (fun i => (i.zero, i.size, i.bytes)) = some (some (.int .i64 0), 1, 8) := by kernel_rfl
def intsV (l : List Nat) : List Value := l.map fun (x : Nat) => Value.int .i64 (x : Int)
end Go.Proofs.Ytmllhebmaldgfaa
