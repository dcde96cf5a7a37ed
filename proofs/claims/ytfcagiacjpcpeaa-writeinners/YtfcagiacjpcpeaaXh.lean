/-
  Nodes to be made that came in, as the walk reads them.
-/
import Derived.Test.YtfcagiacjpcpeaaLong
import Derived.ProofKit
import Derived.OpenShut
import Derived.ShutString
import Derived.ChangeOld
import Derived.Deep.Slices
import Derived.SizedLaws
namespace Go.Proofs.Ytfcagiacjpcpeaa
open Go.ChangeShapes Go.WideShapes Go.ChangeAt Go.RowKit

theorem list5 {α : Type} (l : List α) (h : l.length = 5) : ∃ a b c d e, l = [a, b, c, d, e] := by
  match l, h with
  | [a, b, c, d, e], _ => exact ⟨a, b, c, d, e, rfl⟩
structure ElM where
  what : Int
  up : Int
  n : Int
  text : ByteArray
  la : Option Addr
  cap : Nat
  l : List AttrM
def ElM.cells (o : ElM) : List Value := [.int .i64 o.what, .int .i64 o.up, .int .i64 o.n, .string o.text, .slice o.la o.l.length o.cap]
structure ElsIn (w : World) (a : Option Addr) (l : List ElM) : Prop where
  cells : ∀ (i : Nat) o, l[i]? = some o → ∃ b off, a = some ⟨b, off, none⟩ ∧ w.cell? ⟨b, off + i * 5, none⟩ = some (.int .i64 o.what) ∧ w.cell? ⟨b, off + i * 5 + 1, none⟩ = some (.int .i64 o.up) ∧ w.cell? ⟨b, off + i * 5 + 2, none⟩ = some (.int .i64 o.n) ∧ w.cell? ⟨b, off + i * 5 + 3, none⟩ = some (.string o.text) ∧ w.cell? ⟨b, off + i * 5 + 4, none⟩ = some (.slice o.la o.l.length o.cap)
  attrs : ∀ (i : Nat) o, l[i]? = some o → AttrsIn w o.la o.l ∧ o.l.length * 56 ≤ 140737488351232
theorem ElsIn.below {w w1 : World} {a : Option Addr} {l : List ElM} (h : ElsIn w a l) (hb : Below w.heap.size w w1) : ElsIn w1 a l := by
  refine ⟨fun i o hi => ?_, fun i o hi => ⟨((h.attrs i o hi).1).below hb, (h.attrs i o hi).2⟩⟩
  obtain ⟨b, off, e, c0, c1, c2, c3, c4⟩ := h.cells i o hi
  have hlt : b < w.heap.size := World.block_lt_of_cell? w _ c0
  exact ⟨b, off, e, (hb.cell (p := ⟨b, off + i * 5, none⟩) hlt).trans c0, (hb.cell (p := ⟨b, off + i * 5 + 1, none⟩) hlt).trans c1, (hb.cell (p := ⟨b, off + i * 5 + 2, none⟩) hlt).trans c2, (hb.cell (p := ⟨b, off + i * 5 + 3, none⟩) hlt).trans c3, (hb.cell (p := ⟨b, off + i * 5 + 4, none⟩) hlt).trans c4⟩
theorem laidOut : laidOutB Try.prog = true := by kernel_rfl

theorem list4 {α : Type} (l : List α) (h : l.length = 4) : ∃ a b c d, l = [a, b, c, d] := by
  match l, h with
  | [a, b, c, d], _ => exact ⟨a, b, c, d, rfl⟩

theorem weightsAll_mem {H : Type} {P : Program} {e : TypeId} : ∀ {l : List (DataW H)} {d : DataW H}, d ∈ l → ∀ n ∈ d.weights P e, n ∈ DataW.weightsAll P e l
  | d0 :: l, d, hd, n, hn => by
    simp only [DataW.weightsAll, List.mem_append]
    rcases List.mem_cons.1 hd with rfl | hd
    · exact .inl hn
    · exact .inr (weightsAll_mem hd n hn)

section
variable {H : Type} {enc : TypeId × Value → H} {W : World} {spare : Nat → Bool} {held : Bool}

theorem addr_plain {x : Addr} {v : Value} (h : W.cell? (x.add 0) = some v) : ∃ b off, x = ⟨b, off, none⟩ := by
  obtain ⟨b, off, spot⟩ := x
  have hspot : spot = none := by simpa [Addr.add] using World.cell?_spot h
  exact ⟨b, off, by rw [hspot]⟩

theorem cells_get {x : Addr} {n : Nat} {cs : List Value} (h : W.cells? 0 x n = some cs) (j : Nat) (v : Value) (hj : cs[j]? = some v) : W.cell? (x.add j) = some v := by
  obtain ⟨_, hlen, hc⟩ := World.cells?_some h
  have hlt : j < cs.length := (List.getElem?_eq_some_iff.1 hj).1
  simp only [World.cells?, Nat.zero_le, if_true] at h
  have hjn : j < n := by omega
  have := mapM_some_get h j j (by simp [hjn])
  rw [this, hj]

/-- An attribute's four cells. -/
theorem attr_cells {fuel : Nat} {cs : List Value} {x : DataW H × List MemPlace} (h : DataW.trod enc Try.prog W 0 spare held fuel 96 cs = some x) :
    ∃ z : AttrM, cs = [.int .i64 z.space, .string z.pre, .string z.name, .string z.val] := by
  have hc4 : Try.prog.cellsOf 96 = 4 := by kernel_rfl
  have hc3 : Try.prog.cellsOf 3 = 1 := by kernel_rfl
  have hc9 : Try.prog.cellsOf 9 = 1 := by kernel_rfl
  obtain ⟨xs, k, _, _, hl4, hxl, hfs⟩ := DataW.trod_struct Try.underlying96 h
  rw [hc4] at hl4
  obtain ⟨e0, e1, e2, e3, rfl⟩ := list4 cs hl4
  have f0 := hfs 0 _ rfl
  have f1 := hfs 1 _ rfl
  have f2 := hfs 2 _ rfl
  have f3 := hfs 3 _ rfl
  have hx : xs.length = 4 := by simpa using hxl
  obtain ⟨y0, y1, y2, y3, rfl⟩ := list4 xs hx
  simp [hc3, hc9] at f0 f1 f2 f3
  obtain ⟨z0, g0, _, _⟩ := DataW.trod_int Try.underlying3 f0
  obtain ⟨z1, g1, _, _⟩ := DataW.trod_string Try.underlying9 f1
  obtain ⟨z2, g2, _, _⟩ := DataW.trod_string Try.underlying9 f2
  obtain ⟨z3, g3, _, _⟩ := DataW.trod_string Try.underlying9 f3
  simp at g0 g1 g2 g3
  subst g0 g1 g2 g3
  exact ⟨⟨z0, z1, z2, z3⟩, rfl⟩

/-- A slice of attributes that came in. -/
theorem attrs_cells {fuel : Nat} {cs : List Value} {x : DataW H × List MemPlace} (h : DataW.trod enc Try.prog W 0 spare held fuel 48 cs = some x) :
    ∃ (a : Option Addr) (cap : Nat) (l : List AttrM), cs = [.slice a l.length cap] ∧ AttrsIn W a l ∧ ((x.1.weights Try.prog 48).all (· ≤ reachBytes) = true → l.length * 56 ≤ 140737488351232) := by
  rcases Go.Deep.open_slice Try.underlying48 h with ⟨rfl, _⟩ | ⟨x, len, cap, m, n, D, Pl, rfl, _, hlc, hcm, hm, rfl, hel⟩
  · exact ⟨none, 0, [], rfl, ⟨fun i x hi => by simp at hi⟩, fun _ => by simp⟩
  · have hc4 : Try.prog.cellsOf 96 = 4 := by kernel_rfl
    have hb56 : Try.prog.bytesOf 96 = 56 := by kernel_rfl
    have hlm : len ≤ m := by rw [hm]; split <;> omega
    have one : ∀ i, i < len → ∃ z : AttrM, ∃ b off, x = ⟨b, off, none⟩ ∧ W.cell? ⟨b, off + i * 4, none⟩ = some (.int .i64 z.space) ∧ W.cell? ⟨b, off + i * 4 + 1, none⟩ = some (.string z.pre) ∧
        W.cell? ⟨b, off + i * 4 + 2, none⟩ = some (.string z.name) ∧ W.cell? ⟨b, off + i * 4 + 3, none⟩ = some (.string z.val) := by
      intro i hi
      obtain ⟨cs', hcs', htr⟩ := hel i (by omega)
      rw [hc4] at hcs'
      obtain ⟨z, rfl⟩ := attr_cells htr
      have c0 := cells_get hcs' 0 _ rfl
      have c1 := cells_get hcs' 1 _ rfl
      have c2 := cells_get hcs' 2 _ rfl
      have c3 := cells_get hcs' 3 _ rfl
      rw [Go.Deep.add_add] at c0 c1 c2 c3
      obtain ⟨i0, hi0⟩ : ∃ i0 : Nat, i0 = 0 := ⟨0, rfl⟩
      obtain ⟨cs0, hcs0, htr0⟩ := hel i0 (by omega)
      rw [hc4] at hcs0
      obtain ⟨z', rfl⟩ := attr_cells htr0
      have p0 := cells_get hcs0 0 _ rfl
      rw [Go.Deep.add_add, show i0 * 4 + 0 = 0 by omega] at p0
      obtain ⟨b, off, rfl⟩ := addr_plain p0
      have ad : ∀ k, (⟨b, off, none⟩ : Addr).add k = ⟨b, off + k, none⟩ := fun k => by unfold Addr.add; split <;> simp_all
      rw [ad] at c0 c1 c2 c3
      exact ⟨z, b, off, rfl, c0, c1, c2, c3⟩
    obtain ⟨f, hf'⟩ : ∃ f : Nat → AttrM, ∀ i, i < len → ∃ b off, x = ⟨b, off, none⟩ ∧ W.cell? ⟨b, off + i * 4, none⟩ = some (.int .i64 (f i).space) ∧ W.cell? ⟨b, off + i * 4 + 1, none⟩ = some (.string (f i).pre) ∧
        W.cell? ⟨b, off + i * 4 + 2, none⟩ = some (.string (f i).name) ∧ W.cell? ⟨b, off + i * 4 + 3, none⟩ = some (.string (f i).val) := by
      have : Inhabited AttrM := ⟨⟨0, ⟨#[]⟩, ⟨#[]⟩, ⟨#[]⟩⟩⟩
      exact Go.Deep.choose_lt one
    refine ⟨some x, cap, (List.range len).map f, by simp, ⟨fun i y hi => ?_⟩, fun hw => ?_⟩
    · have hlt : i < len := by have := (List.getElem?_eq_some_iff.1 hi).1; simpa using this
      have hy : f i = y := by simpa [hlt] using hi
      obtain ⟨b, off, e, c0, c1, c2, c3⟩ := hf' i hlt
      subst hy
      exact ⟨b, off, by rw [e], c0, c1, c2, c3⟩
    · have := List.all_eq_true.1 hw (((List.range len).map D).length * 56 + ((List.range (m - len)).map fun j => D (len + j)).length * 56) (by simp [DataW.weights, Try.underlying48, hb56, Nat.add_mul])
      simp [reachBytes] at this
      simp
      omega

theorem el_cells {fuel : Nat} {cs : List Value} {x : DataW H × List MemPlace} (h : DataW.trod enc Try.prog W 0 spare held fuel 50 cs = some x) :
    ∃ o : ElM, cs = o.cells ∧ AttrsIn W o.la o.l ∧ ((x.1.weights Try.prog 50).all (· ≤ reachBytes) = true → o.l.length * 56 ≤ 140737488351232) := by
  have hcE : Try.prog.cellsOf 50 = 5 := by kernel_rfl
  have hcA : Try.prog.cellsOf 48 = 1 := by kernel_rfl
  have hc3 : Try.prog.cellsOf 3 = 1 := by kernel_rfl
  have hc9 : Try.prog.cellsOf 9 = 1 := by kernel_rfl
  obtain ⟨xs, k, _, rfl, hl4, hxl, hfs⟩ := DataW.trod_struct Try.underlying50 h
  rw [hcE] at hl4
  obtain ⟨e0, e1, e2, e3, e4, rfl⟩ := list5 cs hl4
  have hx : xs.length = 5 := by simpa using hxl
  obtain ⟨y0, y1, y2, y3, y4, rfl⟩ := list5 xs hx
  have f0 := hfs 0 _ rfl
  have f1 := hfs 1 _ rfl
  have f2 := hfs 2 _ rfl
  have f3 := hfs 3 _ rfl
  have f4 := hfs 4 _ rfl
  simp [hc3, hc9, hcA] at f0 f1 f2 f3 f4
  obtain ⟨z0, g0, _, _⟩ := DataW.trod_int Try.underlying3 f0
  obtain ⟨z1, g1, _, _⟩ := DataW.trod_int Try.underlying3 f1
  obtain ⟨z2, g2, _, _⟩ := DataW.trod_int Try.underlying3 f2
  obtain ⟨z3, g3, _, _⟩ := DataW.trod_string Try.underlying9 f3
  obtain ⟨la, cap, l, g4, hin, hw⟩ := attrs_cells f4
  simp at g0 g1 g2 g3 g4
  subst g0 g1 g2 g3 g4
  refine ⟨⟨z0, z1, z2, z3, la, cap, l⟩, rfl, hin, fun hall => hw (List.all_eq_true.2 fun n hn => List.all_eq_true.1 hall n ?_)⟩
  simp only [DataW.weights, Try.underlying50]
  exact DataW.weights_mem_each (j := 4) (t := 48) (d := y4.1) rfl rfl n hn

theorem elems_open {a : Option Addr} {len cap : Nat} {d : DataW H} {ps : List MemPlace}
    (h : DataW.Trod enc Try.prog W 0 spare held 22 (.slice a len cap) d ps) (hsz : (d.weights Try.prog 22).all (· ≤ reachBytes) = true) : ∃ l : List ElM, len = l.length ∧ ElsIn W a l ∧ l.length ≤ maxLen := by
  obtain ⟨fuel, hf⟩ := h
  rcases Go.Deep.open_slice Try.underlying22 hf with ⟨hcs, _⟩ | ⟨x, l, c, m, n, D, Pl, hcs, _, hlc, hcm, hm, hx, hel⟩
  · simp [Value.cells] at hcs
    obtain ⟨rfl, rfl, rfl⟩ := hcs
    exact ⟨[], rfl, ⟨fun i x hi => by simp at hi, fun i x hi => by simp at hi⟩, by simp⟩
  · simp [Value.cells] at hcs
    obtain ⟨rfl, rfl, rfl⟩ := hcs
    simp only [Prod.mk.injEq] at hx
    obtain ⟨rfl, _⟩ := hx
    have hc5 : Try.prog.cellsOf 50 = 5 := by kernel_rfl
    have hlm : len ≤ m := by rw [hm]; split <;> omega
    have one : ∀ i, i < len → ∃ o : ElM, (∃ b off, x = ⟨b, off, none⟩ ∧ ∀ (j : Nat) v, o.cells[j]? = some v → W.cell? ⟨b, off + i * 5 + j, none⟩ = some v) ∧ AttrsIn W o.la o.l ∧ o.l.length * 56 ≤ 140737488351232 := by
      intro i hi
      obtain ⟨cs', hcs', htr⟩ := hel i (by omega)
      rw [hc5] at hcs'
      obtain ⟨o, rfl, hin, hw⟩ := el_cells htr
      refine ⟨o, ?_, hin, hw (List.all_eq_true.2 fun n hn => List.all_eq_true.1 hsz n ?_)⟩
      · obtain ⟨i0, hi0⟩ : ∃ i0 : Nat, i0 = 0 := ⟨0, rfl⟩
        obtain ⟨cs0, hcs0, htr0⟩ := hel i0 (by omega)
        rw [hc5] at hcs0
        obtain ⟨o', rfl, _, _⟩ := el_cells htr0
        have p0 := cells_get hcs0 0 _ rfl
        rw [Go.Deep.add_add, show i0 * 5 + 0 = 0 by omega] at p0
        obtain ⟨b, off, rfl⟩ := addr_plain p0
        have ad : ∀ k, (⟨b, off, none⟩ : Addr).add k = ⟨b, off + k, none⟩ := fun k => by unfold Addr.add; split <;> simp_all
        refine ⟨b, off, rfl, fun j v hj => ?_⟩
        have := cells_get hcs' j v hj
        rw [Go.Deep.add_add, ad] at this
        rw [Nat.add_assoc]
        exact this
      · simp only [DataW.weights, Try.underlying22, List.mem_cons, List.mem_append]
        exact .inr (.inl (weightsAll_mem (List.mem_map.2 ⟨i, List.mem_range.2 hi, rfl⟩) n hn))
    obtain ⟨f, hf'⟩ : ∃ f : Nat → ElM, ∀ i, i < len → (∃ b off, x = ⟨b, off, none⟩ ∧ ∀ (j : Nat) v, (f i).cells[j]? = some v → W.cell? ⟨b, off + i * 5 + j, none⟩ = some v) ∧ AttrsIn W (f i).la (f i).l ∧ (f i).l.length * 56 ≤ 140737488351232 := by
      have : Inhabited ElM := ⟨⟨0, 0, 0, ⟨#[]⟩, none, 0, []⟩⟩
      exact Go.Deep.choose_lt one
    have get : ∀ (i : Nat) y, ((List.range len).map f)[i]? = some y → i < len ∧ f i = y := by
      intro i y hi
      have hlt : i < len := by have := (List.getElem?_eq_some_iff.1 hi).1; simpa using this
      exact ⟨hlt, by simpa [hlt] using hi⟩
    refine ⟨(List.range len).map f, by simp, ⟨fun i y hi => ?_, fun i y hi => ?_⟩, by simp; omega⟩
    · obtain ⟨hlt, rfl⟩ := get i y hi
      obtain ⟨⟨b, off, rfl, hc⟩, _, _⟩ := hf' i hlt
      exact ⟨b, off, rfl, hc 0 _ rfl, hc 1 _ rfl, hc 2 _ rfl, hc 3 _ rfl, hc 4 _ rfl⟩
    · obtain ⟨hlt, rfl⟩ := get i y hi
      exact (hf' i hlt).2
end
end Go.Proofs.Ytfcagiacjpcpeaa
