import Derived.Test.YtgmlngmfocdmhaaEa
/-
  Rows of code points that came in, as the walks read them.
-/
namespace Go.Proofs.Ytgmlngmfocdmhaa
open Go.ChangeShapes Go.WideShapes Go.ChangeAt Go.RowKit

def RunesIn (w : World) (a : Option Addr) (l : List Int) : Prop := ∀ i x, l[i]? = some x → (∃ b off, a = some ⟨b, off, none⟩ ∧ w.cell? ⟨b, off + i, none⟩ = some (.int .i32 x)) ∧ -2147483648 ≤ x ∧ x ≤ 2147483647
theorem RunesIn.below {w w' : World} {a : Option Addr} {l : List Int} (h : RunesIn w a l) (hb : Below w.heap.size w w') : RunesIn w' a l := by
  intro i x hi
  obtain ⟨⟨b, off, e, c⟩, h1⟩ := h i x hi
  exact ⟨⟨b, off, e, (hb.cell (p := ⟨b, off + i, none⟩) (World.block_lt_of_cell? w _ c)).trans c⟩, h1⟩
theorem RunesIn.take {w : World} {a : Option Addr} {l : List Int} (h : RunesIn w a l) (n : Nat) : RunesIn w a (l.take n) := by
  intro i x hi
  rw [List.getElem?_take] at hi
  split at hi
  · exact h i x hi
  · cases hi
structure RowM where
  a : Option Addr
  cap : Nat
  l : List Int
def RowsIn (w : World) (a : Option Addr) (rs : List RowM) : Prop := ∀ (i : Nat) r, rs[i]? = some r → (∃ b off, a = some ⟨b, off, none⟩ ∧ w.cell? ⟨b, off + i, none⟩ = some (.slice r.a r.l.length r.cap)) ∧ RunesIn w r.a r.l ∧ r.l.length ≤ 35184372087808 ∧ r.l.length ≤ r.cap
theorem RowsIn.below {w w' : World} {a : Option Addr} {l : List RowM} (h : RowsIn w a l) (hb : Below w.heap.size w w') : RowsIn w' a l := by
  intro i r hi
  obtain ⟨⟨b, off, e, c⟩, h1, h2⟩ := h i r hi
  exact ⟨⟨b, off, e, (hb.cell (p := ⟨b, off + i, none⟩) (World.block_lt_of_cell? w _ c)).trans c⟩, h1.below hb, h2⟩

theorem weightsAll_mem {H : Type} {P : Program} {e : TypeId} : ∀ {l : List (DataW H)} {d : DataW H}, d ∈ l → ∀ n ∈ d.weights P e, n ∈ DataW.weightsAll P e l
  | d0 :: l, d, hd, n, hn => by
    simp only [DataW.weightsAll, List.mem_append]
    rcases List.mem_cons.1 hd with rfl | hd
    · exact .inl hn
    · exact .inr (weightsAll_mem hd n hn)

section
variable {H : Type} {enc : TypeId × Value → H} {W : World} {spare : Nat → Bool} {held : Bool}

theorem runes_cells {fuel : Nat} {cs : List Value} {x : DataW H × List MemPlace} (h : DataW.trod enc Try.prog W 0 spare held fuel 30 cs = some x) :
    ∃ (a : Option Addr) (cap : Nat) (l : List Int), cs = [.slice a l.length cap] ∧ RunesIn W a l ∧ l.length ≤ cap ∧ ((x.1.weights Try.prog 30).all (· ≤ reachBytes) = true → l.length ≤ 35184372087808) := by
  rcases Go.Deep.open_slice Try.underlying30 h with ⟨rfl, _⟩ | ⟨x, len, cap, m, n, D, Pl, rfl, _, hlc, hcm, hm, rfl, hel⟩
  · exact ⟨none, 0, [], rfl, fun i x hi => by simp at hi, by simp, fun _ => by simp⟩
  · have hc1 : Try.prog.cellsOf 21 = 1 := by kernel_rfl
    have hb4 : Try.prog.bytesOf 21 = 4 := by kernel_rfl
    have hlm : len ≤ m := by rw [hm]; split <;> omega
    have one : ∀ i, i < len → ∃ z : Int, (∃ b off, x = ⟨b, off, none⟩ ∧ W.cell? ⟨b, off + i, none⟩ = some (.int .i32 z)) ∧ -2147483648 ≤ z ∧ z ≤ 2147483647 := by
      intro i hi
      obtain ⟨cs', hcs', htr⟩ := hel i (by omega)
      rw [hc1] at hcs'
      obtain ⟨z, rfl, _, wz⟩ := DataW.trod_int Try.underlying21 htr
      have c0 := cells_get hcs' 0 _ rfl
      rw [Go.Deep.add_add] at c0
      obtain ⟨i0, hi0⟩ : ∃ i0 : Nat, i0 = 0 := ⟨0, rfl⟩
      obtain ⟨cs0, hcs0, htr0⟩ := hel i0 (by omega)
      rw [hc1] at hcs0
      obtain ⟨z', rfl, _, _⟩ := DataW.trod_int Try.underlying21 htr0
      have p0 := cells_get hcs0 0 _ rfl
      rw [Go.Deep.add_add, show i0 * 1 + 0 = 0 by omega] at p0
      obtain ⟨b, off, rfl⟩ := addr_plain p0
      rw [add_at, show i * 1 + 0 = i by omega] at c0
      refine ⟨z, ⟨b, off, rfl, c0⟩, ?_⟩
      have e1 : IntKind.i32.min = -2147483648 := by decide
      have e2 : IntKind.i32.max = 2147483647 := by decide
      simp only [Lit.wf, e1, e2, Bool.and_eq_true, decide_eq_true_eq] at wz
      exact wz
    obtain ⟨f, hf'⟩ : ∃ f : Nat → Int, ∀ i, i < len → (∃ b off, x = ⟨b, off, none⟩ ∧ W.cell? ⟨b, off + i, none⟩ = some (.int .i32 (f i))) ∧ -2147483648 ≤ f i ∧ f i ≤ 2147483647 := Go.Deep.choose_lt one
    refine ⟨some x, cap, (List.range len).map f, by simp, fun i y hi => ?_, by simpa using hlc, fun hw => ?_⟩
    · have hlt : i < len := by have := (List.getElem?_eq_some_iff.1 hi).1; simpa using this
      have hy : f i = y := by simpa [hlt] using hi
      obtain ⟨⟨b, off, e, c0⟩, hbd⟩ := hf' i hlt
      subst hy
      exact ⟨⟨b, off, by rw [e], c0⟩, hbd⟩
    · have := List.all_eq_true.1 hw (((List.range len).map D).length * 4 + ((List.range (m - len)).map fun j => D (len + j)).length * 4) (by simp [DataW.weights, Try.underlying30, hb4, Nat.add_mul])
      simp [reachBytes] at this
      simp
      omega

theorem rows_open {a : Option Addr} {len cap : Nat} {d : DataW H} {ps : List MemPlace} (h : DataW.Trod enc Try.prog W 0 spare held 22 (.slice a len cap) d ps) (hsz : (d.weights Try.prog 22).all (· ≤ reachBytes) = true) :
    ∃ l : List RowM, len = l.length ∧ RowsIn W a l ∧ l.length ≤ maxLen := by
  obtain ⟨fuel, hf⟩ := h
  rcases Go.Deep.open_slice Try.underlying22 hf with ⟨hcs, _⟩ | ⟨x, l, c, m, n, D, Pl, hcs, _, hlc, hcm, hm, hx, hel⟩
  · simp [Value.cells] at hcs
    obtain ⟨rfl, rfl, rfl⟩ := hcs
    exact ⟨[], rfl, fun i x hi => by simp at hi, by simp⟩
  · simp [Value.cells] at hcs
    obtain ⟨rfl, rfl, rfl⟩ := hcs
    simp only [Prod.mk.injEq] at hx
    obtain ⟨rfl, _⟩ := hx
    have hc1 : Try.prog.cellsOf 30 = 1 := by kernel_rfl
    have hlm : len ≤ m := by rw [hm]; split <;> omega
    have one : ∀ i, i < len → ∃ r : RowM, (∃ b off, x = ⟨b, off, none⟩ ∧ W.cell? ⟨b, off + i, none⟩ = some (.slice r.a r.l.length r.cap)) ∧ RunesIn W r.a r.l ∧ r.l.length ≤ 35184372087808 ∧ r.l.length ≤ r.cap := by
      intro i hi
      obtain ⟨cs', hcs', htr⟩ := hel i (by omega)
      rw [hc1] at hcs'
      obtain ⟨a', cap', l', rfl, hr, hcp, hw⟩ := runes_cells htr
      have c0 := cells_get hcs' 0 _ rfl
      rw [Go.Deep.add_add] at c0
      obtain ⟨i0, hi0⟩ : ∃ i0 : Nat, i0 = 0 := ⟨0, rfl⟩
      obtain ⟨cs0, hcs0, htr0⟩ := hel i0 (by omega)
      rw [hc1] at hcs0
      obtain ⟨a2, cap2, l2, rfl, _, _, _⟩ := runes_cells htr0
      have p0 := cells_get hcs0 0 _ rfl
      rw [Go.Deep.add_add, show i0 * 1 + 0 = 0 by omega] at p0
      obtain ⟨b, off, rfl⟩ := addr_plain p0
      rw [add_at, show i * 1 + 0 = i by omega] at c0
      refine ⟨⟨a', cap', l'⟩, ⟨b, off, rfl, c0⟩, hr, hw (List.all_eq_true.2 fun n hn => List.all_eq_true.1 hsz n ?_), hcp⟩
      simp only [DataW.weights, Try.underlying22, List.mem_cons, List.mem_append]
      exact .inr (.inl (weightsAll_mem (List.mem_map.2 ⟨i, List.mem_range.2 hi, rfl⟩) n hn))
    obtain ⟨f, hf'⟩ : ∃ f : Nat → RowM, ∀ i, i < len → (∃ b off, x = ⟨b, off, none⟩ ∧ W.cell? ⟨b, off + i, none⟩ = some (.slice (f i).a (f i).l.length (f i).cap)) ∧ RunesIn W (f i).a (f i).l ∧ (f i).l.length ≤ 35184372087808 ∧ (f i).l.length ≤ (f i).cap := by
      have : Inhabited RowM := ⟨⟨none, 0, []⟩⟩
      exact Go.Deep.choose_lt one
    refine ⟨(List.range len).map f, by simp, fun i y hi => ?_, by simp; omega⟩
    have hlt : i < len := by have := (List.getElem?_eq_some_iff.1 hi).1; simpa using this
    have hy : f i = y := by simpa [hlt] using hi
    obtain ⟨⟨b, off, e, hc⟩, h1, h2⟩ := hf' i hlt
    subst hy
    exact ⟨⟨b, off, by rw [e], hc⟩, h1, h2⟩
end
end Go.Proofs.Ytgmlngmfocdmhaa
