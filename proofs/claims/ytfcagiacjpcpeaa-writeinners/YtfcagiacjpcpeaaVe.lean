/-
  What is in a node, as text, plainly; how long it can become.
-/
import Derived.Test.YtfcagiacjpcpeaaVd
import Derived.Test.YtfcagiacjpcpeaaJB
namespace Go.Proofs.Ytfcagiacjpcpeaa
open Go.RowKit Go.Lib

def htmlM (k sp : Int) : Bool := k == 1 && sp == 0
def voidO (o : OneM) : Bool := htmlM o.kind o.space && hasN voids o.name
def plainO (o : OneM) (sc : Bool) : Bool := htmlM o.kind o.space && plainM o.name sc
def kidsOf (os : List OneM) (o : OneM) : List Nat := if o.inner = -1 then o.kids else match os[o.inner.toNat]? with | some c => c.kids | none => []
def comO : ByteArray := ⟨#[60, 33, 45, 45]⟩
def comS : ByteArray := ⟨#[45, 45, 62]⟩
def docO : ByteArray := ⟨#[60, 33, 68, 79, 67, 84, 89, 80, 69, 32]⟩
def gtB : ByteArray := ⟨#[62]⟩
def endB : ByteArray := ⟨#[60, 47]⟩
def elemT (inn : List UInt8) (o : OneM) : List UInt8 := tagL o.name o.attrs ++ (if voidO o then [] else inn ++ catL [endB, o.name, gtB])
def nodeT (inn : List UInt8) (o : OneM) (pl : Bool) : List UInt8 :=
  if o.kind = 1 then elemT inn o
  else if o.kind = 2 then (if pl then o.data.data.toList else escL false o.data.data.toList)
  else if o.kind = 3 then catL [comO, o.data, comS]
  else if o.kind = 4 then catL [docO, o.name, gtB] else []
def inL (os : List OneM) (sc : Bool) : Nat → Nat → List UInt8
  | 0, _ => []
  | n + 1, i => match os[i]? with
    | none => []
    | some o => if voidO o then [] else (kidsOf os o).flatMap fun k => match os[k]? with
      | none => []
      | some c => nodeT (inL os sc n k) c (plainO o sc)
/-- What a node alone may cost. -/
def costO (o : OneM) : Nat := 2 * o.name.size + attrsN o.attrs + 6 * o.data.size + 300
def costN (os : List OneM) : Nat → Nat → Nat
  | 0, _ => 0
  | n + 1, i => match os[i]? with
    | none => 0
    | some o => ((kidsOf os o).map fun k => match os[k]? with
      | none => 0
      | some c => costO c + costN os n k).sum
def kidT (os : List OneM) (sc : Bool) (n : Nat) (pl : Bool) (k : Nat) : List UInt8 := match os[k]? with
  | none => []
  | some c => nodeT (inL os sc n k) c pl
def kidN (os : List OneM) (n : Nat) (k : Nat) : Nat := match os[k]? with
  | none => 0
  | some c => costO c + costN os n k
theorem inL_at {os : List OneM} {i : Nat} {o : OneM} (h : os[i]? = some o) (sc : Bool) (n : Nat) : inL os sc (n + 1) i = if voidO o then [] else (kidsOf os o).flatMap (kidT os sc n (plainO o sc)) := by
  rw [inL, h]; rfl
theorem costN_at {os : List OneM} {i : Nat} {o : OneM} (h : os[i]? = some o) (n : Nat) : costN os (n + 1) i = ((kidsOf os o).map (kidN os n)).sum := by
  rw [costN, h]; rfl
theorem kidT_at {os : List OneM} {k : Nat} {c : OneM} (h : os[k]? = some c) (sc : Bool) (n : Nat) (pl : Bool) : kidT os sc n pl k = nodeT (inL os sc n k) c pl := by unfold kidT; rw [h]
theorem kidN_at {os : List OneM} {k : Nat} {c : OneM} (h : os[k]? = some c) (n : Nat) : kidN os n k = costO c + costN os n k := by unfold kidN; rw [h]
theorem tagL_len (nm : ByteArray) (l : List AttrM) : (tagL nm l).length ≤ nm.size + attrsN l + 2 := by
  unfold tagL
  have := attrsL_len l
  simp only [List.length_append, len_data, List.length_cons, List.length_nil]
  omega
theorem cat3_len (a b c : ByteArray) : (catL [a, b, c]).length = a.size + b.size + c.size := by
  have e : catL [a, b, c] = a.data.toList ++ (b.data.toList ++ c.data.toList) := by simp [catL]
  rw [e, List.length_append, List.length_append, len_data, len_data, len_data]; omega
theorem nodeT_len (inn : List UInt8) (o : OneM) (pl : Bool) : (nodeT inn o pl).length ≤ costO o + inn.length := by
  unfold nodeT elemT costO
  have h1 := tagL_len o.name o.attrs
  have h2 := esc_len false _ o.data.data.toList (Nat.le_refl _)
  rw [len_data] at h2
  have h3 := cat3_len endB o.name gtB
  have h4 := cat3_len comO o.data comS
  have h5 := cat3_len docO o.name gtB
  have k1 : endB.size = 2 := rfl
  have k2 : gtB.size = 1 := rfl
  have k3 : comO.size = 4 := rfl
  have k4 : comS.size = 3 := rfl
  have k5 : docO.size = 10 := rfl
  have h6 := len_data o.data
  split
  · rw [List.length_append]
    split
    · simp; omega
    · rw [List.length_append]; omega
  · split
    · split <;> omega
    · split
      · omega
      · split
        · omega
        · simp
theorem flat_sum {f : Nat → List UInt8} {g : Nat → Nat} (h : ∀ k, (f k).length ≤ g k) (l : List Nat) : (l.flatMap f).length ≤ (l.map g).sum := by
  induction l with
  | nil => simp
  | cons k l ih => simp only [List.flatMap_cons, List.length_append, List.map_cons, List.sum_cons]; have := h k; omega
theorem inL_len (os : List OneM) (sc : Bool) : ∀ (n i : Nat), (inL os sc n i).length ≤ costN os n i := by
  intro n
  induction n with
  | zero => intro i; simp [inL]
  | succ n ih =>
    intro i
    cases ho : os[i]? with
    | none => rw [inL, ho]; simp
    | some o =>
      rw [inL_at ho, costN_at ho]
      split
      · simp
      · refine flat_sum (fun k => ?_) _
        unfold kidT kidN
        cases hc : os[k]? with
        | none => simp
        | some c =>
          have h1 := nodeT_len (inL os sc n k) c (plainO o sc)
          have h2 := ih k
          show (nodeT (inL os sc n k) c (plainO o sc)).length ≤ costO c + costN os n k
          omega
theorem kidT_len (os : List OneM) (sc : Bool) (n : Nat) (pl : Bool) (k : Nat) : (kidT os sc n pl k).length ≤ kidN os n k := by
  unfold kidT kidN
  cases hc : os[k]? with
  | none => simp
  | some c =>
    have h1 := nodeT_len (inL os sc n k) c pl
    have h2 := inL_len os sc n k
    show (nodeT (inL os sc n k) c pl).length ≤ costO c + costN os n k
    omega
end Go.Proofs.Ytfcagiacjpcpeaa
