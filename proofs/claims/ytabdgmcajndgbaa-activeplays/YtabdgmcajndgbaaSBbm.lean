/-
  The law's calls that came in, as the walk reads them. One element of either list under the law's At: both answers, of one kind.
-/
import Derived.Test.YtabdgmcajndgbaaSBbi
import Derived.Test.YtabdgmcajndgbaaSBbl
namespace Go.Proofs.Ytabdgmcajndgbaa
open Go.ChangeShapes Go.WideShapes Go.ChangeAt Go.RowKit

theorem len_data (s : ByteArray) : s.data.toList.length = s.size := by rw [Array.length_toList]; rfl
theorem list4 {α : Type} (l : List α) (h : l.length = 4) : ∃ a b c d, l = [a, b, c, d] := by
  match l, h with
  | [a, b, c, d], _ => exact ⟨a, b, c, d, rfl⟩

theorem weightsAll_mem {H : Type} {P : Program} {e : TypeId} : ∀ {l : List (DataW H)} {d : DataW H}, d ∈ l → ∀ n ∈ d.weights P e, n ∈ DataW.weightsAll P e l
  | d0 :: l, d, hd, n, hn => by
    simp only [DataW.weightsAll, List.mem_append]
    rcases List.mem_cons.1 hd with rfl | hd
    · exact .inl hn
    · exact .inr (weightsAll_mem hd n hn)
theorem list9 {α : Type} (l : List α) (h : l.length = 9) : ∃ a b c d e f g i j, l = [a, b, c, d, e, f, g, i, j] := by
  match l, h with
  | [a, b, c, d, e, f, g, i, j], _ => exact ⟨a, b, c, d, e, f, g, i, j, rfl⟩
theorem list14 {α : Type} (l : List α) (h : l.length = 14) : ∃ a b c d e f g i j k m n o p, l = [a, b, c, d, e, f, g, i, j, k, m, n, o, p] := by
  match l, h with
  | [a, b, c, d, e, f, g, i, j, k, m, n, o, p], _ => exact ⟨a, b, c, d, e, f, g, i, j, k, m, n, o, p, rfl⟩
theorem list6 {α : Type} (l : List α) (h : l.length = 6) : ∃ a b c d e f, l = [a, b, c, d, e, f] := by
  match l, h with
  | [a, b, c, d, e, f], _ => exact ⟨a, b, c, d, e, f, rfl⟩

section
variable {H : Type} {enc : TypeId × Value → H} {W : World} {spare : Nat → Bool} {held : Bool}

def Fits (x : AttrM) : Prop := x.pre.size ≤ 140737488351232 ∧ x.name.size ≤ 140737488351232 ∧ x.val.size ≤ 140737488351232

/-- An attribute's four cells. -/
theorem attr_cells {fuel : Nat} {cs : List Value} {x : DataW H × List MemPlace} (h : DataW.trod enc Try.prog W 0 spare held fuel 86 cs = some x) :
    ∃ z : AttrM, cs = [.int .i64 z.space, .string z.pre, .string z.name, .string z.val] ∧ ((x.1.weights Try.prog 86).all (· ≤ reachBytes) = true → Fits z) := by
  have hc4 : Try.prog.cellsOf 86 = 4 := by kernel_rfl
  have hc3 : Try.prog.cellsOf 3 = 1 := by kernel_rfl
  have hc9 : Try.prog.cellsOf 9 = 1 := by kernel_rfl
  obtain ⟨xs, k, _, rfl, hl4, hxl, hfs⟩ := DataW.trod_struct Try.underlying86 h
  rw [hc4] at hl4
  obtain ⟨e0, e1, e2, e3, rfl⟩ := list4 cs hl4
  have f0 := hfs 0 _ rfl
  have f1 := hfs 1 _ rfl
  have f2 := hfs 2 _ rfl
  have f3 := hfs 3 _ rfl
  have hx : xs.length = 4 := by simpa using hxl
  obtain ⟨y0, y1, y2, y3, rfl⟩ := list4 xs hx
  simp [hc3, hc9] at f0 f1 f2 f3
  obtain ⟨z0, g0, _, _⟩ := DataW.trod_int Try.underlying3 f0
  obtain ⟨z1, g1, w1, _⟩ := DataW.trod_string Try.underlying9 f1
  obtain ⟨z2, g2, w2, _⟩ := DataW.trod_string Try.underlying9 f2
  obtain ⟨z3, g3, w3, _⟩ := DataW.trod_string Try.underlying9 f3
  simp at g0 g1 g2 g3
  subst g0 g1 g2 g3
  refine ⟨⟨z0, z1, z2, z3⟩, rfl, fun hw => ?_⟩
  have sz : ∀ (j : Nat) (y : DataW H × List MemPlace) (z : ByteArray), [y0, y1, y2, y3][j]? = some y → (j = 1 ∨ j = 2 ∨ j = 3) → y.1 = .lit (.string z.data.toList) → z.size ≤ 140737488351232 := by
    intro j y z hy hj hz
    have := List.all_eq_true.1 hw z.data.toList.length (by
      simp only [DataW.weights, Try.underlying86]
      refine DataW.weights_mem_each (j := j) (t := 9) (d := y.1) (by rcases hj with rfl | rfl | rfl <;> rfl) (by rcases hj with rfl | rfl | rfl <;> (cases hy; rfl)) _ ?_
      rw [hz]
      simp [DataW.weights])
    rw [len_data] at this
    exact of_decide_eq_true this
  exact ⟨sz 1 y1 z1 rfl (by simp) (by rw [w1]), sz 2 y2 z2 rfl (by simp) (by rw [w2]), sz 3 y3 z3 rfl (by simp) (by rw [w3])⟩

/-- A slice of attributes that came in. -/
theorem attrs_cells {fuel : Nat} {cs : List Value} {x : DataW H × List MemPlace} (h : DataW.trod enc Try.prog W 0 spare held fuel 35 cs = some x) (hw : (x.1.weights Try.prog 35).all (· ≤ reachBytes) = true) :
    ∃ (a : Option Addr) (cap : Nat) (l : List AttrM), cs = [.slice a l.length cap] ∧ AttrsIn W a l ∧ l.length * 56 ≤ 140737488351232 ∧ ∀ z ∈ l, Fits z := by
  rcases Go.Deep.open_slice Try.underlying35 h with ⟨rfl, _⟩ | ⟨x, len, cap, m, n, D, Pl, rfl, _, hlc, hcm, hm, rfl, hel⟩
  · exact ⟨none, 0, [], rfl, ⟨fun i x hi => by simp at hi⟩, by simp, fun z hz => by simp at hz⟩
  · have hc4 : Try.prog.cellsOf 86 = 4 := by kernel_rfl
    have hb56 : Try.prog.bytesOf 86 = 56 := by kernel_rfl
    have hlm : len ≤ m := by rw [hm]; split <;> omega
    have one : ∀ i, i < len → ∃ z : AttrM, Fits z ∧ ∃ b off, x = ⟨b, off, none⟩ ∧ W.cell? ⟨b, off + i * 4, none⟩ = some (.int .i64 z.space) ∧ W.cell? ⟨b, off + i * 4 + 1, none⟩ = some (.string z.pre) ∧
        W.cell? ⟨b, off + i * 4 + 2, none⟩ = some (.string z.name) ∧ W.cell? ⟨b, off + i * 4 + 3, none⟩ = some (.string z.val) := by
      intro i hi
      obtain ⟨cs', hcs', htr⟩ := hel i (by omega)
      rw [hc4] at hcs'
      obtain ⟨z, rfl, hfit⟩ := attr_cells htr
      have hf : Fits z := hfit (List.all_eq_true.2 fun n hn => List.all_eq_true.1 hw n (by
        simp only [DataW.weights, Try.underlying35, List.mem_cons, List.mem_append]
        exact .inr (.inl (weightsAll_mem (List.mem_map.2 ⟨i, List.mem_range.2 hi, rfl⟩) n hn))))
      have c0 := cells_get1 hcs' 0 _ rfl
      have c1 := cells_get1 hcs' 1 _ rfl
      have c2 := cells_get1 hcs' 2 _ rfl
      have c3 := cells_get1 hcs' 3 _ rfl
      rw [Go.Deep.add_add] at c0 c1 c2 c3
      obtain ⟨i0, hi0⟩ : ∃ i0 : Nat, i0 = 0 := ⟨0, rfl⟩
      obtain ⟨cs0, hcs0, htr0⟩ := hel i0 (by omega)
      rw [hc4] at hcs0
      obtain ⟨z', rfl, _⟩ := attr_cells htr0
      have p0 := cells_get1 hcs0 0 _ rfl
      rw [Go.Deep.add_add, show i0 * 4 + 0 = 0 by omega] at p0
      obtain ⟨b, off, rfl⟩ := addr_plain1 p0
      have ad : ∀ k, (⟨b, off, none⟩ : Addr).add k = ⟨b, off + k, none⟩ := fun k => by unfold Addr.add; split <;> simp_all
      rw [ad] at c0 c1 c2 c3
      exact ⟨z, hf, b, off, rfl, c0, c1, c2, c3⟩
    obtain ⟨f, hf'⟩ : ∃ f : Nat → AttrM, ∀ i, i < len → Fits (f i) ∧ ∃ b off, x = ⟨b, off, none⟩ ∧ W.cell? ⟨b, off + i * 4, none⟩ = some (.int .i64 (f i).space) ∧ W.cell? ⟨b, off + i * 4 + 1, none⟩ = some (.string (f i).pre) ∧
        W.cell? ⟨b, off + i * 4 + 2, none⟩ = some (.string (f i).name) ∧ W.cell? ⟨b, off + i * 4 + 3, none⟩ = some (.string (f i).val) := by
      have : Inhabited AttrM := ⟨⟨0, ⟨#[]⟩, ⟨#[]⟩, ⟨#[]⟩⟩⟩
      exact Go.Deep.choose_lt one
    refine ⟨some x, cap, (List.range len).map f, by simp, ⟨fun i y hi => ?_⟩, ?_, fun z hz => ?_⟩
    · have hlt : i < len := by have := (List.getElem?_eq_some_iff.1 hi).1; simpa using this
      have hy : f i = y := by simpa [hlt] using hi
      obtain ⟨_, b, off, e, c0, c1, c2, c3⟩ := hf' i hlt
      subst hy
      exact ⟨b, off, by rw [e], c0, c1, c2, c3⟩
    · have := List.all_eq_true.1 hw (((List.range len).map D).length * 56 + ((List.range (m - len)).map fun j => D (len + j)).length * 56) (by simp [DataW.weights, Try.underlying35, hb56, Nat.add_mul])
      simp [reachBytes] at this
      simp
      omega
    · obtain ⟨i, hi, rfl⟩ := List.mem_map.1 hz
      exact (hf' i (List.mem_range.1 hi)).1
/-- A token's nine cells, and its attributes. -/
theorem tok_cells {fuel : Nat} {cs : List Value} {x : DataW H × List MemPlace} (h : DataW.trod enc Try.prog W 0 spare held fuel 37 cs = some x) (hw : (x.1.weights Try.prog 37).all (· ≤ reachBytes) = true) :
    ∃ (k : Int) (nm da sy : ByteArray) (hs : Int) (qk : Bool) (ch : Int) (se : Bool) (a : Option Addr) (l : List AttrM) (cap : Nat), cs = [.int .i64 k, .string nm, .string da, .string sy, .int .i64 hs, .bool qk, .int .i32 ch, .bool se, .slice a l.length cap] ∧ AttrsIn W a l ∧ l.length * 56 ≤ 140737488351232 := by
  have hc24 : Try.prog.cellsOf 37 = 9 := by kernel_rfl
  have hc3 : Try.prog.cellsOf 3 = 1 := by kernel_rfl
  have hc4 : Try.prog.cellsOf 4 = 1 := by kernel_rfl
  have hc9 : Try.prog.cellsOf 9 = 1 := by kernel_rfl
  have hc21 : Try.prog.cellsOf 21 = 1 := by kernel_rfl
  have hc25 : Try.prog.cellsOf 35 = 1 := by kernel_rfl
  obtain ⟨xs, n, _, rfl, hl9, hxl, hfs⟩ := DataW.trod_struct Try.underlying37 h
  rw [hc24] at hl9
  obtain ⟨e0, e1, e2, e3, e4, e5, e6, e7, e8, rfl⟩ := list9 cs hl9
  have hx : xs.length = 9 := by simpa using hxl
  obtain ⟨y0, y1, y2, y3, y4, y5, y6, y7, y8, rfl⟩ := list9 xs hx
  have f0 := hfs 0 _ rfl
  have f1 := hfs 1 _ rfl
  have f2 := hfs 2 _ rfl
  have f3 := hfs 3 _ rfl
  have f4 := hfs 4 _ rfl
  have f5 := hfs 5 _ rfl
  have f6 := hfs 6 _ rfl
  have f7 := hfs 7 _ rfl
  have f8 := hfs 8 _ rfl
  simp [hc3, hc4, hc9, hc21, hc25] at f0 f1 f2 f3 f4 f5 f6 f7 f8
  obtain ⟨z0, g0, _, _⟩ := DataW.trod_int Try.underlying3 f0
  obtain ⟨z1, g1, _, _⟩ := DataW.trod_string Try.underlying9 f1
  obtain ⟨z2, g2, _, _⟩ := DataW.trod_string Try.underlying9 f2
  obtain ⟨z3, g3, _, _⟩ := DataW.trod_string Try.underlying9 f3
  obtain ⟨z4, g4, _, _⟩ := DataW.trod_int Try.underlying3 f4
  obtain ⟨z5, g5, _⟩ := DataW.trod_bool Try.underlying4 f5
  obtain ⟨z6, g6, _, _⟩ := DataW.trod_int Try.underlying21 f6
  obtain ⟨z7, g7, _⟩ := DataW.trod_bool Try.underlying4 f7
  obtain ⟨a, cap, l, g8, hin, hl, _⟩ := attrs_cells f8 (List.all_eq_true.2 fun m hm => List.all_eq_true.1 hw m (by
    simp only [DataW.weights, Try.underlying37]
    exact DataW.weights_mem_each (j := 8) (t := 35) (d := y8.1) rfl rfl _ hm))
  simp at g0 g1 g2 g3 g4 g5 g6 g7 g8
  subst g0 g1 g2 g3 g4 g5 g6 g7 g8
  exact ⟨z0, z1, z2, z3, z4, z5, z6, z7, a, l, cap, rfl, hin, hl⟩

theorem ins_lo {l : List AttrM} {a : Option Addr} (h : AttrsIn W a l) : ∀ b off, a = some ⟨b, off, none⟩ → l ≠ [] → b < W.heap.size := by
  intro b off e hne
  cases l with
  | nil => exact absurd rfl hne
  | cons y r =>
    obtain ⟨b', off', e', c0, _⟩ := h.cells 0 y rfl
    rw [e] at e'
    cases e'
    exact World.block_lt_of_cell? W _ c0
/-- A call's fourteen cells. -/
theorem op_cells {fuel : Nat} {cs : List Value} {x : DataW H × List MemPlace} (h : DataW.trod enc Try.prog W 0 spare held fuel 39 cs = some x) (hw : (x.1.weights Try.prog 39).all (· ≤ reachBytes) = true) : ∃ z : OpM, cs = z.cells ∧ OpOk W z := by
  have hc39 : Try.prog.cellsOf 39 = 14 := by kernel_rfl
  have hc37 : Try.prog.cellsOf 37 = 9 := by kernel_rfl
  have hc3 : Try.prog.cellsOf 3 = 1 := by kernel_rfl
  have hc9 : Try.prog.cellsOf 9 = 1 := by kernel_rfl
  obtain ⟨xs, n, _, rfl, hl14, hxl, hfs⟩ := DataW.trod_struct Try.underlying39 h
  rw [hc39] at hl14
  obtain ⟨e0, e1, e2, e3, e4, e5, e6, e7, e8, e9, e10, e11, e12, e13, rfl⟩ := list14 cs hl14
  have hx : xs.length = 6 := by simpa using hxl
  obtain ⟨y0, y1, y2, y3, y4, y5, rfl⟩ := list6 xs hx
  have f0 := hfs 0 _ rfl
  have f1 := hfs 1 _ rfl
  have f2 := hfs 2 _ rfl
  have f3 := hfs 3 _ rfl
  have f4 := hfs 4 _ rfl
  have f5 := hfs 5 _ rfl
  simp [hc3, hc9, hc37] at f0 f1 f2 f3 f4 f5
  obtain ⟨z0, g0, _, _⟩ := DataW.trod_int Try.underlying3 f0
  obtain ⟨z1, g1, _, _⟩ := DataW.trod_int Try.underlying3 f1
  obtain ⟨z2, g2, _, _⟩ := DataW.trod_int Try.underlying3 f2
  obtain ⟨z3, g3, _, _⟩ := DataW.trod_int Try.underlying3 f3
  obtain ⟨z4, g4, _, _⟩ := DataW.trod_string Try.underlying9 f4
  obtain ⟨k, nm, da, sy, hs, qk, ch, se, a, l, cap, g5, hin, hl⟩ := tok_cells f5 (List.all_eq_true.2 fun m hm => List.all_eq_true.1 hw m (by
    simp only [DataW.weights, Try.underlying39]
    exact DataW.weights_mem_each (j := 5) (t := 37) (d := y5.1) rfl rfl _ hm))
  simp at g0 g1 g2 g3 g4 g5
  obtain ⟨rfl, rfl, rfl, rfl, rfl, rfl, rfl, rfl, rfl⟩ := g5
  subst g0 g1 g2 g3 g4
  exact ⟨⟨z0, z1, z2, z3, z4, ⟨k, nm, da, sy, hs, qk, ch, se, l⟩, a, cap⟩, rfl, hin, ins_lo hin, by show l.length ≤ _; omega⟩
/-- A list of calls that came in. -/
structure OpsIn (w : World) (a : Option Addr) (l : List OpM) : Prop where
  cells : ∀ (i : Nat) z, l[i]? = some z → OpOk w z ∧ ∃ b off, a = some ⟨b, off, none⟩ ∧ ∀ (j : Nat) u, z.cells[j]? = some u → w.cell? ⟨b, off + i * 14 + j, none⟩ = some u
theorem ops13_open {a : Option Addr} {len cap : Nat} {d : DataW H} {ps : List MemPlace} (h : DataW.Trod enc Try.prog W 0 spare held 23 (.slice a len cap) d ps) (hw : (d.weights Try.prog 23).all (· ≤ reachBytes) = true) :
    ∃ l : List OpM, len = l.length ∧ OpsIn W a l ∧ l.length * 152 ≤ 140737488351232 := by
  obtain ⟨fuel, hf⟩ := h
  rcases Go.Deep.open_slice Try.underlying23 hf with ⟨hcs, _⟩ | ⟨x, len', cap', m, n, D, Pl, hcs, _, hlc, hcm, hm, hd, hel⟩
  · simp [Value.cells] at hcs
    obtain ⟨rfl, rfl, rfl⟩ := hcs
    exact ⟨[], rfl, ⟨fun i x hi => by simp at hi⟩, by simp⟩
  · simp [Value.cells] at hcs
    obtain ⟨rfl, rfl, rfl⟩ := hcs
    cases hd
    have hcn : Try.prog.cellsOf 39 = 14 := by kernel_rfl
    have hbn : Try.prog.bytesOf 39 = 152 := by kernel_rfl
    have hlm : len ≤ m := by rw [hm]; split <;> omega
    have wt : ∀ i, i < len → ((D i).weights Try.prog 39).all (· ≤ reachBytes) = true := fun i hi => List.all_eq_true.2 fun k hk => List.all_eq_true.1 hw k (by
      simp only [DataW.weights, Try.underlying23, List.mem_cons, List.mem_append]
      exact .inr (.inl (weightsAll_mem (List.mem_map.2 ⟨i, List.mem_range.2 hi, rfl⟩) k hk)))
    have one : ∀ i, i < len → ∃ z : OpM, OpOk W z ∧ ∃ b off, x = ⟨b, off, none⟩ ∧ ∀ (j : Nat) u, z.cells[j]? = some u → W.cell? ⟨b, off + i * 14 + j, none⟩ = some u := by
      intro i hi
      obtain ⟨cs', hcs', htr⟩ := hel i (by omega)
      rw [hcn] at hcs'
      obtain ⟨z, rfl, hz⟩ := op_cells htr (wt i hi)
      obtain ⟨i0, hi0⟩ : ∃ i0 : Nat, i0 = 0 := ⟨0, rfl⟩
      obtain ⟨cs0, hcs0, htr0⟩ := hel i0 (by omega)
      rw [hcn] at hcs0
      obtain ⟨z', rfl, _⟩ := op_cells htr0 (wt i0 (by omega))
      have p0 := cells_get1 hcs0 0 _ rfl
      rw [Go.Deep.add_add, show i0 * 14 + 0 = 0 by omega] at p0
      obtain ⟨b, off, rfl⟩ := addr_plain1 p0
      refine ⟨z, hz, b, off, rfl, fun j u hj => ?_⟩
      have c0 := cells_get1 hcs' j u hj
      rw [Go.Deep.add_add, add_at1] at c0
      rw [Nat.add_assoc]
      exact c0
    obtain ⟨f, hf'⟩ : ∃ f : Nat → OpM, ∀ i, i < len → OpOk W (f i) ∧ ∃ b off, x = ⟨b, off, none⟩ ∧ ∀ (j : Nat) u, (f i).cells[j]? = some u → W.cell? ⟨b, off + i * 14 + j, none⟩ = some u := by
      have : Inhabited OpM := ⟨⟨0, 0, 0, 0, ⟨#[]⟩, tok0, none, 0⟩⟩
      exact Go.Deep.choose_lt one
    refine ⟨(List.range len).map f, by simp, ⟨fun i y hi => ?_⟩, ?_⟩
    · have hlt : i < len := by have := (List.getElem?_eq_some_iff.1 hi).1; simpa using this
      have hy : f i = y := by simpa [hlt] using hi
      obtain ⟨ho, b, off, e, hc⟩ := hf' i hlt
      subst hy
      exact ⟨ho, b, off, by rw [e], hc⟩
    · have := List.all_eq_true.1 hw (((List.range len).map D).length * 152 + ((List.range (m - len)).map fun j => D (len + j)).length * 152) (by simp [DataW.weights, Try.underlying23, hbn, Nat.add_mul])
      simp [reachBytes] at this
      simp
      omega
end
end Go.Proofs.Ytabdgmcajndgbaa

namespace Go.Proofs.Ytabdgmcajndgbaa
open Go.RowKit Go.Sort

section
variable {ks : List Key} {qs : List EntQ}
theorem e4_both (w : World) (bA bR bL bQ : Nat) (hg : GoodQ ks qs) (k : Nat) : ∃ (nd : Int) (t : TokM) (c : Int) (a2 : Option Addr) (c2 : Nat), t.attrs.length ≤ 2513169434916 ∧ (∀ W', E4 w W' bA bR bL bQ ks qs → AttrsIn W' a2 t.attrs)
    ∧ (∀ W', E4 w W' bA bR bL bQ ks qs → Calls Try.prog 11 #[.pointer (some ⟨bL, 0, none⟩), .int .i64 ((k : Int) - 1)] W' fun e w' => ∃ ao ac, e = .returned (.tuple #[.agg (Value.int .i64 nd :: t.cells (.slice ao t.attrs.length ac)).toArray, .int .i64 c]) ∧ AttrsIn w' ao t.attrs ∧ E4 w w' bA bR bL bQ ks qs)
    ∧ (∀ W', E4 w W' bA bR bL bQ ks qs → Calls Try.prog 12 #[.pointer (some ⟨bQ, 0, none⟩), .int .i64 ((k : Int) - 1)] W' fun e w' => e = .returned (.tuple #[.agg (Value.int .i64 nd :: t.cells (.slice a2 t.attrs.length c2)).toArray, .int .i64 c]) ∧ Below W'.heap.size W' w') := by
  by_cases hin : 1 ≤ k ∧ k ≤ qs.length
  · obtain ⟨x, hx⟩ : ∃ x, qs[k - 1]? = some x := ⟨_, List.getElem?_eq_getElem (by omega)⟩
    have hm : x ∈ qs := List.mem_of_getElem? hx
    have ek : ((k : Int) - 1) = ((k - 1 : Nat) : Int) := by omega
    rw [ek]
    refine ⟨x.node, x.tok, 0, x.a, x.c, hg.few x hm, fun W' h' => ?_, fun W' h' => ?_, fun W' h' => ?_⟩
    · obtain ⟨F, v, hq, _, _⟩ := Env.q (show Env w W' _ from h') (i := 3) rfl
      exact (hq.anyAttr hm).1
    · exact (env_lat (show Env w W' _ from h') (j := 2) (bL := bL) (bA := bA) (es := esOf ks qs) rfl (k - 1) (x := eOf ks x) (by rw [esOf_get, hx]; rfl)).mono fun _ _ ⟨a, b, c, d, e⟩ => ⟨a, b, c, d.ins, e⟩
    · obtain ⟨F, v, hq, _, _⟩ := Env.q (show Env w W' _ from h') (i := 3) rfl
      exact qat_yes hq (k - 1) hx
  · have hn : ((k : Int) - 1) < 0 ∨ (qs.length : Int) ≤ ((k : Int) - 1) := by omega
    refine ⟨0, ⟨0, ⟨#[]⟩, ⟨#[]⟩, ⟨#[]⟩, 0, false, 0, false, []⟩, 1, none, 0, by simp, fun W' h' => ⟨fun i x hi => by simp at hi⟩, fun W' h' => ?_, fun W' h' => ?_⟩
    · exact (env_lat_no (show Env w W' _ from h') (j := 2) (bL := bL) (bA := bA) (es := esOf ks qs) rfl _ (by rw [esOf_len]; exact hn)).mono fun _ _ ⟨a, b⟩ => ⟨none, 0, a, ⟨fun i x hi => by simp at hi⟩, b⟩
    · obtain ⟨F, v, hq, _, _⟩ := Env.q (show Env w W' _ from h') (i := 3) rfl
      exact qat_no hq _ hn
end
/-- Two blocks, one before a call that leaves it, one behind. -/
theorem two_boxes (w8 w9 : World) (a b : Array Value) (t : TypeId) (h : Below (w8.alloc (.cells a t)).heap.size (w8.alloc (.cells a t)) w9) : (w9.alloc (.cells b t)).heap[w8.heap.size]? = some (.cells a t) ∧ (w9.alloc (.cells b t)).heap[w9.heap.size]? = some (.cells b t) := by
  refine ⟨?_, heap_alloc_new w9 _⟩
  have h0 : (w8.alloc (.cells a t)).heap[w8.heap.size]? = some (.cells a t) := heap_alloc_new w8 _
  have hlt : w8.heap.size < (w8.alloc (.cells a t)).heap.size := (Array.getElem?_eq_some_iff.1 h0).1
  have h1 := (h.block _ hlt).trans h0
  have hlt9 : w8.heap.size < w9.heap.size := (Array.getElem?_eq_some_iff.1 h1).1
  exact ((below_new w9 (.cells b t)).block _ hlt9).trans h1
theorem ten_cells {w : World} {n : Nat} {t : TypeId} {v0 v1 v2 v3 v4 v5 v6 v7 v8 v9 : Value} (h : w.heap[n]? = some (.cells #[v0, v1, v2, v3, v4, v5, v6, v7, v8, v9] t)) : w.cell? ⟨n, 0, none⟩ = some v0 ∧ w.cell? ⟨n, 1, none⟩ = some v1 ∧ w.cell? ⟨n, 2, none⟩ = some v2 ∧ w.cell? ⟨n, 3, none⟩ = some v3 ∧ w.cell? ⟨n, 4, none⟩ = some v4 ∧ w.cell? ⟨n, 5, none⟩ = some v5 ∧ w.cell? ⟨n, 6, none⟩ = some v6 ∧ w.cell? ⟨n, 7, none⟩ = some v7 ∧ w.cell? ⟨n, 8, none⟩ = some v8 ∧ w.cell? ⟨n, 9, none⟩ = some v9 :=
  ⟨cell_of_row _ _ 0 _ _ _ h, cell_of_row _ _ 1 _ _ _ h, cell_of_row _ _ 2 _ _ _ h, cell_of_row _ _ 3 _ _ _ h, cell_of_row _ _ 4 _ _ _ h, cell_of_row _ _ 5 _ _ _ h, cell_of_row _ _ 6 _ _ _ h, cell_of_row _ _ 7 _ _ _ h, cell_of_row _ _ 8 _ _ _ h, cell_of_row _ _ 9 _ _ _ h⟩
theorem two_cells {w : World} {n m : Nat} {t : TypeId} {v0 v1 v2 v3 v4 v5 v6 v7 v8 v9 u0 u1 u2 u3 u4 u5 u6 u7 u8 u9 : Value} (h : w.heap[n]? = some (.cells #[v0, v1, v2, v3, v4, v5, v6, v7, v8, v9] t) ∧ w.heap[m]? = some (.cells #[u0, u1, u2, u3, u4, u5, u6, u7, u8, u9] t)) : (w.cell? ⟨n, 0, none⟩ = some v0 ∧ w.cell? ⟨n, 1, none⟩ = some v1 ∧ w.cell? ⟨n, 2, none⟩ = some v2 ∧ w.cell? ⟨n, 3, none⟩ = some v3 ∧ w.cell? ⟨n, 4, none⟩ = some v4 ∧ w.cell? ⟨n, 5, none⟩ = some v5 ∧ w.cell? ⟨n, 6, none⟩ = some v6 ∧ w.cell? ⟨n, 7, none⟩ = some v7 ∧ w.cell? ⟨n, 8, none⟩ = some v8 ∧ w.cell? ⟨n, 9, none⟩ = some v9) ∧ w.cell? ⟨m, 0, none⟩ = some u0 ∧ w.cell? ⟨m, 1, none⟩ = some u1 ∧ w.cell? ⟨m, 2, none⟩ = some u2 ∧ w.cell? ⟨m, 3, none⟩ = some u3 ∧ w.cell? ⟨m, 4, none⟩ = some u4 ∧ w.cell? ⟨m, 5, none⟩ = some u5 ∧ w.cell? ⟨m, 6, none⟩ = some u6 ∧ w.cell? ⟨m, 7, none⟩ = some u7 ∧ w.cell? ⟨m, 8, none⟩ = some u8 ∧ w.cell? ⟨m, 9, none⟩ = some u9 :=
  ⟨ten_cells h.1, ten_cells h.2⟩
end Go.Proofs.Ytabdgmcajndgbaa
