/-
  Code points, bytes, lists of code points and scripts that came in, as the walks read them.
-/
import Derived.Test.YtlhebbhpcepfhaaPa
import Derived.ProofKit
import Derived.OpenShut
import Derived.ChangeOld
import Derived.Deep.Slices
import Derived.SizedLaws
namespace Go.Proofs.Ytlhebbhpcepfhaa
open Go.ChangeShapes Go.WideShapes Go.ChangeAt Go.RowKit

theorem weightsAll_mem {H : Type} {P : Program} {e : TypeId} : ∀ {l : List (DataW H)} {d : DataW H}, d ∈ l → ∀ n ∈ d.weights P e, n ∈ DataW.weightsAll P e l
  | d0 :: l, d, hd, n, hn => by
    simp only [DataW.weightsAll, List.mem_append]
    rcases List.mem_cons.1 hd with rfl | hd
    · exact .inl hn
    · exact .inr (weightsAll_mem hd n hn)

/-- Bytes that can be read. -/
def BytesIn (w : World) (a : Option Addr) (l : List Int) : Prop := ∀ (i : Nat) x, l[i]? = some x → (∃ b off, a = some ⟨b, off, none⟩ ∧ w.cell? ⟨b, off + i, none⟩ = some (.int .u8 x)) ∧ 0 ≤ x ∧ x ≤ 255
theorem BytesIn.below {w w' : World} {a : Option Addr} {l : List Int} (h : BytesIn w a l) (hb : Below w.heap.size w w') : BytesIn w' a l := by
  intro i x hi
  obtain ⟨⟨b, off, ha, hc⟩, hx⟩ := h i x hi
  exact ⟨⟨b, off, ha, by rw [hb.cell (World.block_lt_of_cell? w _ hc)]; exact hc⟩, hx⟩

/-- A list of code points among lists. -/
structure RowM where
  a : Option Addr
  cap : Nat
  l : List Int
def RowsIn (w : World) (a : Option Addr) (rs : List RowM) : Prop := ∀ (i : Nat) r, rs[i]? = some r → (∃ b off, a = some ⟨b, off, none⟩ ∧ w.cell? ⟨b, off + i, none⟩ = some (.slice r.a r.l.length r.cap)) ∧ RunesIn w r.a r.l ∧ r.l.length ≤ 35184372087808
theorem RowsIn.below {w w' : World} {a : Option Addr} {l : List RowM} (h : RowsIn w a l) (hb : Below w.heap.size w w') : RowsIn w' a l := by
  intro i x hi
  obtain ⟨⟨b, off, ha, hc⟩, hx, hl⟩ := h i x hi
  exact ⟨⟨b, off, ha, by rw [hb.cell (World.block_lt_of_cell? w _ hc)]; exact hc⟩, hx.below hb, hl⟩

/-- A call of a script: what it is, and its code points. -/
structure OpI where
  what : Int
  a : Option Addr
  cap : Nat
  l : List Int
def ScriptIn (w : World) (a : Option Addr) (os : List OpI) : Prop := ∀ (i : Nat) o, os[i]? = some o → (∃ b off, a = some ⟨b, off, none⟩ ∧ w.cell? ⟨b, off + i * 2, none⟩ = some (.int .i64 o.what) ∧ w.cell? ⟨b, off + i * 2 + 1, none⟩ = some (.slice o.a o.l.length o.cap)) ∧ RunesIn w o.a o.l ∧ o.l.length ≤ 35184372087808
theorem ScriptIn.below {w w' : World} {a : Option Addr} {l : List OpI} (h : ScriptIn w a l) (hb : Below w.heap.size w w') : ScriptIn w' a l := by
  intro i x hi
  obtain ⟨⟨b, off, ha, hc, hd⟩, hx, hl⟩ := h i x hi
  exact ⟨⟨b, off, ha, by rw [hb.cell (World.block_lt_of_cell? w _ hc)]; exact hc, by rw [hb.cell (World.block_lt_of_cell? w _ hd)]; exact hd⟩, hx.below hb, hl⟩

theorem laidOut : laidOutB Try.prog = true := by kernel_rfl

section
variable {H : Type} {enc : TypeId × Value → H} {W : World} {spare : Nat → Bool} {held : Bool}

theorem addr_plain {x : Addr} {v : Value} (h : W.cell? (x.add 0) = some v) : ∃ b off, x = ⟨b, off, none⟩ := by
  obtain ⟨b, off, spot⟩ := x
  have hspot : spot = none := by simpa [Addr.add] using World.cell?_spot h
  exact ⟨b, off, by rw [hspot]⟩

theorem cells_get {x : Addr} {n : Nat} {cs : List Value} (h : W.cells? 0 x n = some cs) (j : Nat) (v : Value) (hj : cs[j]? = some v) : W.cell? (x.add j) = some v := by
  obtain ⟨_, hlen, hc⟩ := World.cells?_some h
  have hlt : j < cs.length := (List.getElem?_eq_some_iff.1 hj).1
  simp only [World.cells?, Nat.zero_le, if_true] at h
  have hjn : j < n := by omega
  have := mapM_some_get h j j (by simp [hjn])
  rw [this, hj]

theorem runes_cells {fuel : Nat} {cs : List Value} {x : DataW H × List MemPlace} (h : DataW.trod enc Try.prog W 0 spare held fuel 28 cs = some x) :
    ∃ (a : Option Addr) (cap : Nat) (l : List Int), cs = [.slice a l.length cap] ∧ RunesIn W a l ∧ ((x.1.weights Try.prog 28).all (· ≤ reachBytes) = true → l.length ≤ 35184372087808) := by
  rcases Go.Deep.open_slice Try.underlying28 h with ⟨rfl, _⟩ | ⟨x, len, cap, m, n, D, Pl, rfl, _, hlc, hcm, hm, rfl, hel⟩
  · exact ⟨none, 0, [], rfl, fun i x hi => by simp at hi, fun _ => by simp⟩
  · have hc1 : Try.prog.cellsOf 21 = 1 := by kernel_rfl
    have hb4 : Try.prog.bytesOf 21 = 4 := by kernel_rfl
    have hlm : len ≤ m := by rw [hm]; split <;> omega
    have one : ∀ i, i < len → ∃ z : Int, ∃ b off, x = ⟨b, off, none⟩ ∧ W.cell? ⟨b, off + i, none⟩ = some (.int .i32 z) := by
      intro i hi
      obtain ⟨cs', hcs', htr⟩ := hel i (by omega)
      rw [hc1] at hcs'
      obtain ⟨z, rfl, _, _⟩ := DataW.trod_int Try.underlying21 htr
      have c0 := cells_get hcs' 0 _ rfl
      rw [Go.Deep.add_add] at c0
      obtain ⟨i0, hi0⟩ : ∃ i0 : Nat, i0 = 0 := ⟨0, rfl⟩
      obtain ⟨cs0, hcs0, htr0⟩ := hel i0 (by omega)
      rw [hc1] at hcs0
      obtain ⟨z', rfl, _, _⟩ := DataW.trod_int Try.underlying21 htr0
      have p0 := cells_get hcs0 0 _ rfl
      rw [Go.Deep.add_add, show i0 * 1 + 0 = 0 by omega] at p0
      obtain ⟨b, off, rfl⟩ := addr_plain p0
      rw [add_at, show i * 1 + 0 = i by omega] at c0
      exact ⟨z, b, off, rfl, c0⟩
    obtain ⟨f, hf'⟩ : ∃ f : Nat → Int, ∀ i, i < len → ∃ b off, x = ⟨b, off, none⟩ ∧ W.cell? ⟨b, off + i, none⟩ = some (.int .i32 (f i)) := Go.Deep.choose_lt one
    refine ⟨some x, cap, (List.range len).map f, by simp, fun i y hi => ?_, fun hw => ?_⟩
    · have hlt : i < len := by have := (List.getElem?_eq_some_iff.1 hi).1; simpa using this
      have hy : f i = y := by simpa [hlt] using hi
      obtain ⟨b, off, e, c0⟩ := hf' i hlt
      subst hy
      exact ⟨b, off, by rw [e], c0⟩
    · have := List.all_eq_true.1 hw (((List.range len).map D).length * 4 + ((List.range (m - len)).map fun j => D (len + j)).length * 4) (by simp [DataW.weights, Try.underlying28, hb4, Nat.add_mul])
      simp [reachBytes] at this
      simp
      omega

theorem runes_open {a : Option Addr} {len cap : Nat} {d : DataW H} {ps : List MemPlace} (h : DataW.Trod enc Try.prog W 0 spare held 28 (.slice a len cap) d ps) (hsz : (d.weights Try.prog 28).all (· ≤ reachBytes) = true) :
    ∃ l : List Int, l.length = len ∧ RunesIn W a l ∧ l.length ≤ 35184372087808 := by
  obtain ⟨fuel, hf⟩ := h
  obtain ⟨a', cap', l, e, hr, hw⟩ := runes_cells hf
  simp [Value.cells] at e
  obtain ⟨rfl, rfl, rfl⟩ := e
  exact ⟨l, rfl, hr, hw hsz⟩

theorem bytes_open {a : Option Addr} {len cap : Nat} {d : DataW H} {ps : List MemPlace} (h : DataW.Trod enc Try.prog W 0 spare held 37 (.slice a len cap) d ps) :
    ∃ l : List Int, l.length = len ∧ BytesIn W a l ∧ l.length ≤ maxLen := by
  obtain ⟨fuel, hf⟩ := h
  rcases Go.Deep.open_slice Try.underlying37 hf with ⟨hcs, _⟩ | ⟨x, l, c, m, n, D, Pl, hcs, _, hlc, hcm, hm, hx, hel⟩
  · simp [Value.cells] at hcs
    obtain ⟨rfl, rfl, rfl⟩ := hcs
    exact ⟨[], rfl, fun i x hi => by simp at hi, by simp⟩
  · simp [Value.cells] at hcs
    obtain ⟨rfl, rfl, rfl⟩ := hcs
    have hc1 : Try.prog.cellsOf 5 = 1 := by kernel_rfl
    have hlm : len ≤ m := by rw [hm]; split <;> omega
    have one : ∀ i, i < len → ∃ z : Int, (∃ b off, x = ⟨b, off, none⟩ ∧ W.cell? ⟨b, off + i, none⟩ = some (.int .u8 z)) ∧ 0 ≤ z ∧ z ≤ 255 := by
      intro i hi
      obtain ⟨cs', hcs', htr⟩ := hel i (by omega)
      rw [hc1] at hcs'
      obtain ⟨z, rfl, _, hwf⟩ := DataW.trod_int Try.underlying5 htr
      have hz : 0 ≤ z ∧ z < 256 := by
        have e1 : IntKind.u8.min = 0 := rfl
        have e2 : IntKind.u8.max = 255 := by decide
        simp only [Lit.wf, e1, e2, Bool.and_eq_true, decide_eq_true_eq] at hwf
        omega
      have c0 := cells_get hcs' 0 _ rfl
      rw [Go.Deep.add_add] at c0
      obtain ⟨i0, hi0⟩ : ∃ i0 : Nat, i0 = 0 := ⟨0, rfl⟩
      obtain ⟨cs0, hcs0, htr0⟩ := hel i0 (by omega)
      rw [hc1] at hcs0
      obtain ⟨z0, rfl, _, _⟩ := DataW.trod_int Try.underlying5 htr0
      have p0 := cells_get hcs0 0 _ rfl
      rw [Go.Deep.add_add, show i0 * 1 + 0 = 0 by omega] at p0
      obtain ⟨b, off, rfl⟩ := addr_plain p0
      rw [add_at, show i * 1 + 0 = i by omega] at c0
      exact ⟨z, ⟨b, off, rfl, c0⟩, hz.1, by omega⟩
    obtain ⟨f, hf'⟩ : ∃ f : Nat → Int, ∀ i, i < len → (∃ b off, x = ⟨b, off, none⟩ ∧ W.cell? ⟨b, off + i, none⟩ = some (.int .u8 (f i))) ∧ 0 ≤ f i ∧ f i ≤ 255 := Go.Deep.choose_lt one
    refine ⟨(List.range len).map f, by simp, fun i y hi => ?_, by simp; omega⟩
    have hlt : i < len := by have := (List.getElem?_eq_some_iff.1 hi).1; simpa using this
    have hy : f i = y := by simpa [hlt] using hi
    obtain ⟨⟨b, off, e, hc⟩, h1, h2⟩ := hf' i hlt
    subst hy
    exact ⟨⟨b, off, by rw [e], hc⟩, h1, h2⟩

theorem rows_open {a : Option Addr} {len cap : Nat} {d : DataW H} {ps : List MemPlace} (h : DataW.Trod enc Try.prog W 0 spare held 45 (.slice a len cap) d ps) (hsz : (d.weights Try.prog 45).all (· ≤ reachBytes) = true) :
    ∃ l : List RowM, l.length = len ∧ RowsIn W a l ∧ l.length ≤ maxLen := by
  obtain ⟨fuel, hf⟩ := h
  rcases Go.Deep.open_slice Try.underlying45 hf with ⟨hcs, _⟩ | ⟨x, l, c, m, n, D, Pl, hcs, _, hlc, hcm, hm, hx, hel⟩
  · simp [Value.cells] at hcs
    obtain ⟨rfl, rfl, rfl⟩ := hcs
    exact ⟨[], rfl, fun i x hi => by simp at hi, by simp⟩
  · simp [Value.cells] at hcs
    obtain ⟨rfl, rfl, rfl⟩ := hcs
    simp only [Prod.mk.injEq] at hx
    obtain ⟨rfl, _⟩ := hx
    have hc1 : Try.prog.cellsOf 28 = 1 := by kernel_rfl
    have hlm : len ≤ m := by rw [hm]; split <;> omega
    have one : ∀ i, i < len → ∃ r : RowM, (∃ b off, x = ⟨b, off, none⟩ ∧ W.cell? ⟨b, off + i, none⟩ = some (.slice r.a r.l.length r.cap)) ∧ RunesIn W r.a r.l ∧ r.l.length ≤ 35184372087808 := by
      intro i hi
      obtain ⟨cs', hcs', htr⟩ := hel i (by omega)
      rw [hc1] at hcs'
      obtain ⟨a', cap', l', rfl, hr, hw⟩ := runes_cells htr
      have c0 := cells_get hcs' 0 _ rfl
      rw [Go.Deep.add_add] at c0
      obtain ⟨i0, hi0⟩ : ∃ i0 : Nat, i0 = 0 := ⟨0, rfl⟩
      obtain ⟨cs0, hcs0, htr0⟩ := hel i0 (by omega)
      rw [hc1] at hcs0
      obtain ⟨a2, cap2, l2, rfl, _, _⟩ := runes_cells htr0
      have p0 := cells_get hcs0 0 _ rfl
      rw [Go.Deep.add_add, show i0 * 1 + 0 = 0 by omega] at p0
      obtain ⟨b, off, rfl⟩ := addr_plain p0
      rw [add_at, show i * 1 + 0 = i by omega] at c0
      refine ⟨⟨a', cap', l'⟩, ⟨b, off, rfl, c0⟩, hr, hw (List.all_eq_true.2 fun n hn => List.all_eq_true.1 hsz n ?_)⟩
      simp only [DataW.weights, Try.underlying45, List.mem_cons, List.mem_append]
      exact .inr (.inl (weightsAll_mem (List.mem_map.2 ⟨i, List.mem_range.2 hi, rfl⟩) n hn))
    obtain ⟨f, hf'⟩ : ∃ f : Nat → RowM, ∀ i, i < len → (∃ b off, x = ⟨b, off, none⟩ ∧ W.cell? ⟨b, off + i, none⟩ = some (.slice (f i).a (f i).l.length (f i).cap)) ∧ RunesIn W (f i).a (f i).l ∧ (f i).l.length ≤ 35184372087808 := by
      have : Inhabited RowM := ⟨⟨none, 0, []⟩⟩
      exact Go.Deep.choose_lt one
    refine ⟨(List.range len).map f, by simp, fun i y hi => ?_, by simp; omega⟩
    have hlt : i < len := by have := (List.getElem?_eq_some_iff.1 hi).1; simpa using this
    have hy : f i = y := by simpa [hlt] using hi
    obtain ⟨⟨b, off, e, hc⟩, h1, h2⟩ := hf' i hlt
    subst hy
    exact ⟨⟨b, off, by rw [e], hc⟩, h1, h2⟩

theorem op_cells {fuel : Nat} {cs : List Value} {x : DataW H × List MemPlace} (h : DataW.trod enc Try.prog W 0 spare held fuel 30 cs = some x) :
    ∃ o : OpI, cs = [.int .i64 o.what, .slice o.a o.l.length o.cap] ∧ RunesIn W o.a o.l ∧ ((x.1.weights Try.prog 30).all (· ≤ reachBytes) = true → o.l.length ≤ 35184372087808) := by
  have hc30 : Try.prog.cellsOf 30 = 2 := by kernel_rfl
  have hc28 : Try.prog.cellsOf 28 = 1 := by kernel_rfl
  have hc3 : Try.prog.cellsOf 3 = 1 := by kernel_rfl
  obtain ⟨xs, k, _, rfl, hl2, hxl, hfs⟩ := DataW.trod_struct Try.underlying30 h
  rw [hc30] at hl2
  match cs, hl2 with
  | [e0, e1], _ =>
    have hx : xs.length = 2 := by simpa using hxl
    match xs, hx with
    | [y0, y1], _ =>
      have f0 := hfs 0 _ rfl
      have f1 := hfs 1 _ rfl
      simp [hc3, hc28] at f0 f1
      obtain ⟨z0, g0, _, _⟩ := DataW.trod_int Try.underlying3 f0
      obtain ⟨la, cap, l, g1, hin, hw⟩ := runes_cells f1
      simp at g0 g1
      subst g0 g1
      refine ⟨⟨z0, la, cap, l⟩, rfl, hin, fun hall => hw (List.all_eq_true.2 fun n hn => List.all_eq_true.1 hall n ?_)⟩
      simp only [DataW.weights, Try.underlying30]
      exact DataW.weights_mem_each (j := 1) (t := 28) (d := y1.1) rfl rfl n hn

theorem script_open {a : Option Addr} {len cap : Nat} {d : DataW H} {ps : List MemPlace} (h : DataW.Trod enc Try.prog W 0 spare held 22 (.slice a len cap) d ps) (hsz : (d.weights Try.prog 22).all (· ≤ reachBytes) = true) :
    ∃ l : List OpI, l.length = len ∧ ScriptIn W a l ∧ l.length ≤ maxLen := by
  obtain ⟨fuel, hf⟩ := h
  rcases Go.Deep.open_slice Try.underlying22 hf with ⟨hcs, _⟩ | ⟨x, l, c, m, n, D, Pl, hcs, _, hlc, hcm, hm, hx, hel⟩
  · simp [Value.cells] at hcs
    obtain ⟨rfl, rfl, rfl⟩ := hcs
    exact ⟨[], rfl, fun i x hi => by simp at hi, by simp⟩
  · simp [Value.cells] at hcs
    obtain ⟨rfl, rfl, rfl⟩ := hcs
    simp only [Prod.mk.injEq] at hx
    obtain ⟨rfl, _⟩ := hx
    have hc2 : Try.prog.cellsOf 30 = 2 := by kernel_rfl
    have hlm : len ≤ m := by rw [hm]; split <;> omega
    have one : ∀ i, i < len → ∃ o : OpI, (∃ b off, x = ⟨b, off, none⟩ ∧ W.cell? ⟨b, off + i * 2, none⟩ = some (.int .i64 o.what) ∧ W.cell? ⟨b, off + i * 2 + 1, none⟩ = some (.slice o.a o.l.length o.cap)) ∧ RunesIn W o.a o.l ∧ o.l.length ≤ 35184372087808 := by
      intro i hi
      obtain ⟨cs', hcs', htr⟩ := hel i (by omega)
      rw [hc2] at hcs'
      obtain ⟨o, rfl, hr, hw⟩ := op_cells htr
      have c0 := cells_get hcs' 0 _ rfl
      have c1 := cells_get hcs' 1 _ rfl
      rw [Go.Deep.add_add] at c0 c1
      obtain ⟨i0, hi0⟩ : ∃ i0 : Nat, i0 = 0 := ⟨0, rfl⟩
      obtain ⟨cs0, hcs0, htr0⟩ := hel i0 (by omega)
      rw [hc2] at hcs0
      obtain ⟨o2, rfl, _, _⟩ := op_cells htr0
      have p0 := cells_get hcs0 0 _ rfl
      rw [Go.Deep.add_add, show i0 * 2 + 0 = 0 by omega] at p0
      obtain ⟨b, off, rfl⟩ := addr_plain p0
      rw [add_at] at c0 c1
      refine ⟨o, ⟨b, off, rfl, c0, c1⟩, hr, hw (List.all_eq_true.2 fun n hn => List.all_eq_true.1 hsz n ?_)⟩
      simp only [DataW.weights, Try.underlying22, List.mem_cons, List.mem_append]
      exact .inr (.inl (weightsAll_mem (List.mem_map.2 ⟨i, List.mem_range.2 hi, rfl⟩) n hn))
    obtain ⟨f, hf'⟩ : ∃ f : Nat → OpI, ∀ i, i < len → (∃ b off, x = ⟨b, off, none⟩ ∧ W.cell? ⟨b, off + i * 2, none⟩ = some (.int .i64 (f i).what) ∧ W.cell? ⟨b, off + i * 2 + 1, none⟩ = some (.slice (f i).a (f i).l.length (f i).cap)) ∧ RunesIn W (f i).a (f i).l ∧ (f i).l.length ≤ 35184372087808 := by
      have : Inhabited OpI := ⟨⟨0, none, 0, []⟩⟩
      exact Go.Deep.choose_lt one
    refine ⟨(List.range len).map f, by simp, fun i y hi => ?_, by simp; omega⟩
    have hlt : i < len := by have := (List.getElem?_eq_some_iff.1 hi).1; simpa using this
    have hy : f i = y := by simpa [hlt] using hi
    obtain ⟨⟨b, off, e, hc, hd⟩, h1, h2⟩ := hf' i hlt
    subst hy
    exact ⟨⟨b, off, by rw [e], hc, hd⟩, h1, h2⟩
end
end Go.Proofs.Ytlhebbhpcepfhaa
