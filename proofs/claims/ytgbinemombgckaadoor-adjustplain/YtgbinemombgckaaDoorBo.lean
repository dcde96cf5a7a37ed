/-
  Lists of attributes that came in, as the walks read them.
-/
import Derived.Test.YtgbinemombgckaaDoorBa
import Derived.ProofKit
import Derived.OpenShut
import Derived.ShutString
import Derived.ChangeOld
import Derived.Deep.Slices
import Derived.SizedLaws
namespace Go.Proofs.YtgbinemombgckaaDoor
open Go.ChangeShapes Go.WideShapes Go.ChangeAt Go.RowKit

theorem laidOut : laidOutB Tryd.prog = true := by kernel_rfl
theorem list4 {α : Type} (l : List α) (h : l.length = 4) : ∃ a b c d, l = [a, b, c, d] := by
  match l, h with
  | [a, b, c, d], _ => exact ⟨a, b, c, d, rfl⟩

theorem weightsAll_mem {H : Type} {P : Program} {e : TypeId} : ∀ {l : List (DataW H)} {d : DataW H}, d ∈ l → ∀ n ∈ d.weights P e, n ∈ DataW.weightsAll P e l
  | d0 :: l, d, hd, n, hn => by
    simp only [DataW.weightsAll, List.mem_append]
    rcases List.mem_cons.1 hd with rfl | hd
    · exact .inl hn
    · exact .inr (weightsAll_mem hd n hn)

section
variable {H : Type} {enc : TypeId × Value → H} {W : World} {spare : Nat → Bool} {held : Bool}

theorem addr_plain {x : Addr} {v : Value} (h : W.cell? (x.add 0) = some v) : ∃ b off, x = ⟨b, off, none⟩ := by
  obtain ⟨b, off, spot⟩ := x
  have hspot : spot = none := by simpa [Addr.add] using World.cell?_spot h
  exact ⟨b, off, by rw [hspot]⟩

theorem cells_get {x : Addr} {n : Nat} {cs : List Value} (h : W.cells? 0 x n = some cs) (j : Nat) (v : Value) (hj : cs[j]? = some v) : W.cell? (x.add j) = some v := by
  obtain ⟨_, hlen, hc⟩ := World.cells?_some h
  have hlt : j < cs.length := (List.getElem?_eq_some_iff.1 hj).1
  simp only [World.cells?, Nat.zero_le, if_true] at h
  have hjn : j < n := by omega
  have := mapM_some_get h j j (by simp [hjn])
  rw [this, hj]


def Fits (x : AttrM) : Prop := x.pre.size ≤ 140737488351232 ∧ x.name.size ≤ 140737488351232 ∧ x.val.size ≤ 140737488351232

/-- An attribute's four cells. -/
theorem attr_cells {fuel : Nat} {cs : List Value} {x : DataW H × List MemPlace} (h : DataW.trod enc Tryd.prog W 0 spare held fuel 29 cs = some x) :
    ∃ z : AttrM, cs = [.int .i64 z.space, .string z.pre, .string z.name, .string z.val] ∧ ((x.1.weights Tryd.prog 29).all (· ≤ reachBytes) = true → Fits z) := by
  have hc4 : Tryd.prog.cellsOf 29 = 4 := by kernel_rfl
  have hc3 : Tryd.prog.cellsOf 3 = 1 := by kernel_rfl
  have hc9 : Tryd.prog.cellsOf 9 = 1 := by kernel_rfl
  obtain ⟨xs, k, _, rfl, hl4, hxl, hfs⟩ := DataW.trod_struct Tryd.underlying29 h
  rw [hc4] at hl4
  obtain ⟨e0, e1, e2, e3, rfl⟩ := list4 cs hl4
  have f0 := hfs 0 _ rfl
  have f1 := hfs 1 _ rfl
  have f2 := hfs 2 _ rfl
  have f3 := hfs 3 _ rfl
  have hx : xs.length = 4 := by simpa using hxl
  obtain ⟨y0, y1, y2, y3, rfl⟩ := list4 xs hx
  simp [hc3, hc9] at f0 f1 f2 f3
  obtain ⟨z0, g0, _, _⟩ := DataW.trod_int Tryd.underlying3 f0
  obtain ⟨z1, g1, w1, _⟩ := DataW.trod_string Tryd.underlying9 f1
  obtain ⟨z2, g2, w2, _⟩ := DataW.trod_string Tryd.underlying9 f2
  obtain ⟨z3, g3, w3, _⟩ := DataW.trod_string Tryd.underlying9 f3
  simp at g0 g1 g2 g3
  subst g0 g1 g2 g3
  refine ⟨⟨z0, z1, z2, z3⟩, rfl, fun hw => ?_⟩
  have sz : ∀ (j : Nat) (y : DataW H × List MemPlace) (z : ByteArray), [y0, y1, y2, y3][j]? = some y → (j = 1 ∨ j = 2 ∨ j = 3) → y.1 = .lit (.string z.data.toList) → z.size ≤ 140737488351232 := by
    intro j y z hy hj hz
    have := List.all_eq_true.1 hw z.data.toList.length (by
      simp only [DataW.weights, Tryd.underlying29]
      refine DataW.weights_mem_each (j := j) (t := 9) (d := y.1) (by rcases hj with rfl | rfl | rfl <;> rfl) (by rcases hj with rfl | rfl | rfl <;> (cases hy; rfl)) _ ?_
      rw [hz]
      simp [DataW.weights])
    rw [len_data] at this
    exact of_decide_eq_true this
  exact ⟨sz 1 y1 z1 rfl (by simp) (by rw [w1]), sz 2 y2 z2 rfl (by simp) (by rw [w2]), sz 3 y3 z3 rfl (by simp) (by rw [w3])⟩

/-- A slice of attributes that came in. -/
theorem attrs_cells {fuel : Nat} {cs : List Value} {x : DataW H × List MemPlace} (h : DataW.trod enc Tryd.prog W 0 spare held fuel 22 cs = some x) (hw : (x.1.weights Tryd.prog 22).all (· ≤ reachBytes) = true) :
    ∃ (a : Option Addr) (cap : Nat) (l : List AttrM), cs = [.slice a l.length cap] ∧ AttrsIn W a l ∧ l.length * 56 ≤ 140737488351232 ∧ ∀ z ∈ l, Fits z := by
  rcases Go.Deep.open_slice Tryd.underlying22 h with ⟨rfl, _⟩ | ⟨x, len, cap, m, n, D, Pl, rfl, _, hlc, hcm, hm, rfl, hel⟩
  · exact ⟨none, 0, [], rfl, ⟨fun i x hi => by simp at hi⟩, by simp, fun z hz => by simp at hz⟩
  · have hc4 : Tryd.prog.cellsOf 29 = 4 := by kernel_rfl
    have hb56 : Tryd.prog.bytesOf 29 = 56 := by kernel_rfl
    have hlm : len ≤ m := by rw [hm]; split <;> omega
    have one : ∀ i, i < len → ∃ z : AttrM, Fits z ∧ ∃ b off, x = ⟨b, off, none⟩ ∧ W.cell? ⟨b, off + i * 4, none⟩ = some (.int .i64 z.space) ∧ W.cell? ⟨b, off + i * 4 + 1, none⟩ = some (.string z.pre) ∧
        W.cell? ⟨b, off + i * 4 + 2, none⟩ = some (.string z.name) ∧ W.cell? ⟨b, off + i * 4 + 3, none⟩ = some (.string z.val) := by
      intro i hi
      obtain ⟨cs', hcs', htr⟩ := hel i (by omega)
      rw [hc4] at hcs'
      obtain ⟨z, rfl, hfit⟩ := attr_cells htr
      have hf : Fits z := hfit (List.all_eq_true.2 fun n hn => List.all_eq_true.1 hw n (by
        simp only [DataW.weights, Tryd.underlying22, List.mem_cons, List.mem_append]
        exact .inr (.inl (weightsAll_mem (List.mem_map.2 ⟨i, List.mem_range.2 hi, rfl⟩) n hn))))
      have c0 := cells_get hcs' 0 _ rfl
      have c1 := cells_get hcs' 1 _ rfl
      have c2 := cells_get hcs' 2 _ rfl
      have c3 := cells_get hcs' 3 _ rfl
      rw [Go.Deep.add_add] at c0 c1 c2 c3
      obtain ⟨i0, hi0⟩ : ∃ i0 : Nat, i0 = 0 := ⟨0, rfl⟩
      obtain ⟨cs0, hcs0, htr0⟩ := hel i0 (by omega)
      rw [hc4] at hcs0
      obtain ⟨z', rfl, _⟩ := attr_cells htr0
      have p0 := cells_get hcs0 0 _ rfl
      rw [Go.Deep.add_add, show i0 * 4 + 0 = 0 by omega] at p0
      obtain ⟨b, off, rfl⟩ := addr_plain p0
      have ad : ∀ k, (⟨b, off, none⟩ : Addr).add k = ⟨b, off + k, none⟩ := fun k => by unfold Addr.add; split <;> simp_all
      rw [ad] at c0 c1 c2 c3
      exact ⟨z, hf, b, off, rfl, c0, c1, c2, c3⟩
    obtain ⟨f, hf'⟩ : ∃ f : Nat → AttrM, ∀ i, i < len → Fits (f i) ∧ ∃ b off, x = ⟨b, off, none⟩ ∧ W.cell? ⟨b, off + i * 4, none⟩ = some (.int .i64 (f i).space) ∧ W.cell? ⟨b, off + i * 4 + 1, none⟩ = some (.string (f i).pre) ∧
        W.cell? ⟨b, off + i * 4 + 2, none⟩ = some (.string (f i).name) ∧ W.cell? ⟨b, off + i * 4 + 3, none⟩ = some (.string (f i).val) := by
      have : Inhabited AttrM := ⟨⟨0, ⟨#[]⟩, ⟨#[]⟩, ⟨#[]⟩⟩⟩
      exact Go.Deep.choose_lt one
    refine ⟨some x, cap, (List.range len).map f, by simp, ⟨fun i y hi => ?_⟩, ?_, fun z hz => ?_⟩
    · have hlt : i < len := by have := (List.getElem?_eq_some_iff.1 hi).1; simpa using this
      have hy : f i = y := by simpa [hlt] using hi
      obtain ⟨_, b, off, e, c0, c1, c2, c3⟩ := hf' i hlt
      subst hy
      exact ⟨b, off, by rw [e], c0, c1, c2, c3⟩
    · have := List.all_eq_true.1 hw (((List.range len).map D).length * 56 + ((List.range (m - len)).map fun j => D (len + j)).length * 56) (by simp [DataW.weights, Tryd.underlying22, hb56, Nat.add_mul])
      simp [reachBytes] at this
      simp
      omega
    · obtain ⟨i, hi, rfl⟩ := List.mem_map.1 hz
      exact (hf' i (List.mem_range.1 hi)).1

theorem attrs_open {a : Option Addr} {len cap : Nat} {d : DataW H} {ps : List MemPlace} (h : DataW.Trod enc Tryd.prog W 0 spare held 22 (.slice a len cap) d ps) (hsz : (d.weights Tryd.prog 22).all (· ≤ reachBytes) = true) :
    ∃ l : List AttrM, len = l.length ∧ AttrsIn W a l ∧ l.length * 56 ≤ 140737488351232 ∧ ∀ z ∈ l, Fits z := by
  obtain ⟨fuel, hf⟩ := h
  obtain ⟨a', cap', l, hcs, h1, h2, h3⟩ := attrs_cells hf hsz
  simp [Value.cells] at hcs
  obtain ⟨rfl, rfl, rfl⟩ := hcs
  exact ⟨l, rfl, h1, h2, h3⟩
end
end Go.Proofs.YtgbinemombgckaaDoor
