/-
  Proved: a copy tells the same as what it was made of, and what is done to either changes nothing of the other: NodeCopies returns true for every two scripts, and changes nothing.
  Conditions: none beyond the given row's own.
-/
import Derived.Test.YtlbkoafeedlfaaaCPlay
import Derived.ProofKit
import Derived.OpenShut
import Derived.ShutString
import Derived.ChangeOld
import Derived.Deep.Slices
import Derived.SizedLaws
import Derived.Test.YtlbkoafeedlfaaaCRnA
import Derived.Test.YtlbkoafeedlfaaaRows
import Derived.Lib.SmallJoins
import Derived.Test.YtlbkoafeedlfaaaCSg
import Derived.Deep.LoopGhost
import Derived.Deep.RegionHeld3
import Derived.Test.YtlbkoafeedlfaaaCRfB
import Derived.Deep.AppendLies
import Derived.Deep.AppendSrc
import Derived.Deep.Upon
namespace Go.Proofs.Ytlbkoafeedlfaaa
open Go.ChangeShapes Go.WideShapes Go.ChangeAt Go.RowKit
open Go.ChangeMaps (open_string shut_string)

theorem list4 {α : Type} (l : List α) (h : l.length = 4) : ∃ a b c d, l = [a, b, c, d] := by
  match l, h with
  | [a, b, c, d], _ => exact ⟨a, b, c, d, rfl⟩

theorem list9 {α : Type} (l : List α) (h : l.length = 9) : ∃ a b c d e f g i j, l = [a, b, c, d, e, f, g, i, j] := by
  match l, h with
  | [a, b, c, d, e, f, g, i, j], _ => exact ⟨a, b, c, d, e, f, g, i, j, rfl⟩

theorem list12 {α : Type} (l : List α) (h : l.length = 12) : ∃ a b c d e f g i j k m n, l = [a, b, c, d, e, f, g, i, j, k, m, n] := by
  match l, h with
  | [a, b, c, d, e, f, g, i, j, k, m, n], _ => exact ⟨a, b, c, d, e, f, g, i, j, k, m, n, rfl⟩

theorem weightsAll_mem {H : Type} {P : Program} {e : TypeId} : ∀ {l : List (DataW H)} {d : DataW H}, d ∈ l → ∀ n ∈ d.weights P e, n ∈ DataW.weightsAll P e l
  | d0 :: l, d, hd, n, hn => by
    simp only [DataW.weightsAll, List.mem_append]
    rcases List.mem_cons.1 hd with rfl | hd
    · exact .inl hn
    · exact .inr (weightsAll_mem hd n hn)

section
variable {H : Type} {enc : TypeId × Value → H} {W : World} {spare : Nat → Bool} {held : Bool}

theorem addr_plain {x : Addr} {v : Value} (h : W.cell? (x.add 0) = some v) : ∃ b off, x = ⟨b, off, none⟩ := by
  obtain ⟨b, off, spot⟩ := x
  have hspot : spot = none := by simpa [Addr.add] using World.cell?_spot h
  exact ⟨b, off, by rw [hspot]⟩

theorem cells_get {x : Addr} {n : Nat} {cs : List Value} (h : W.cells? 0 x n = some cs) (j : Nat) (v : Value) (hj : cs[j]? = some v) : W.cell? (x.add j) = some v := by
  obtain ⟨_, hlen, hc⟩ := World.cells?_some h
  have hlt : j < cs.length := (List.getElem?_eq_some_iff.1 hj).1
  simp only [World.cells?, Nat.zero_le, if_true] at h
  have hjn : j < n := by omega
  have := mapM_some_get h j j (by simp [hjn])
  rw [this, hj]

/-- An attribute's four cells. -/
theorem attr_cells {fuel : Nat} {cs : List Value} {x : DataW H × List MemPlace} (h : DataW.trod enc Try.prog W 0 spare held fuel 29 cs = some x) :
    ∃ z : AttrM, cs = [.int .i64 z.space, .string z.pre, .string z.name, .string z.val] := by
  have hc4 : Try.prog.cellsOf 29 = 4 := by kernel_rfl
  have hc3 : Try.prog.cellsOf 3 = 1 := by kernel_rfl
  have hc9 : Try.prog.cellsOf 9 = 1 := by kernel_rfl
  obtain ⟨xs, k, _, _, hl4, hxl, hfs⟩ := DataW.trod_struct Try.underlying29 h
  rw [hc4] at hl4
  obtain ⟨e0, e1, e2, e3, rfl⟩ := list4 cs hl4
  have f0 := hfs 0 _ rfl
  have f1 := hfs 1 _ rfl
  have f2 := hfs 2 _ rfl
  have f3 := hfs 3 _ rfl
  have hx : xs.length = 4 := by simpa using hxl
  obtain ⟨y0, y1, y2, y3, rfl⟩ := list4 xs hx
  simp [hc3, hc9] at f0 f1 f2 f3
  obtain ⟨z0, g0, _, _⟩ := DataW.trod_int Try.underlying3 f0
  obtain ⟨z1, g1, _, _⟩ := DataW.trod_string Try.underlying9 f1
  obtain ⟨z2, g2, _, _⟩ := DataW.trod_string Try.underlying9 f2
  obtain ⟨z3, g3, _, _⟩ := DataW.trod_string Try.underlying9 f3
  simp at g0 g1 g2 g3
  subst g0 g1 g2 g3
  exact ⟨⟨z0, z1, z2, z3⟩, rfl⟩

/-- A slice of attributes that came in. -/
theorem attrs_cells {fuel : Nat} {cs : List Value} {x : DataW H × List MemPlace} (h : DataW.trod enc Try.prog W 0 spare held fuel 30 cs = some x) :
    ∃ (a : Option Addr) (cap : Nat) (l : List AttrM), cs = [.slice a l.length cap] ∧ AttrsIn W a l ∧ ((x.1.weights Try.prog 30).all (· ≤ reachBytes) = true → l.length * 56 ≤ 140737488351232) := by
  rcases Go.Deep.open_slice Try.underlying30 h with ⟨rfl, _⟩ | ⟨x, len, cap, m, n, D, Pl, rfl, _, hlc, hcm, hm, rfl, hel⟩
  · exact ⟨none, 0, [], rfl, ⟨fun i x hi => by simp at hi⟩, fun _ => by simp⟩
  · have hc4 : Try.prog.cellsOf 29 = 4 := by kernel_rfl
    have hb56 : Try.prog.bytesOf 29 = 56 := by kernel_rfl
    have hlm : len ≤ m := by rw [hm]; split <;> omega
    have one : ∀ i, i < len → ∃ z : AttrM, ∃ b off, x = ⟨b, off, none⟩ ∧ W.cell? ⟨b, off + i * 4, none⟩ = some (.int .i64 z.space) ∧ W.cell? ⟨b, off + i * 4 + 1, none⟩ = some (.string z.pre) ∧
        W.cell? ⟨b, off + i * 4 + 2, none⟩ = some (.string z.name) ∧ W.cell? ⟨b, off + i * 4 + 3, none⟩ = some (.string z.val) := by
      intro i hi
      obtain ⟨cs', hcs', htr⟩ := hel i (by omega)
      rw [hc4] at hcs'
      obtain ⟨z, rfl⟩ := attr_cells htr
      have c0 := cells_get hcs' 0 _ rfl
      have c1 := cells_get hcs' 1 _ rfl
      have c2 := cells_get hcs' 2 _ rfl
      have c3 := cells_get hcs' 3 _ rfl
      rw [Go.Deep.add_add] at c0 c1 c2 c3
      obtain ⟨i0, hi0⟩ : ∃ i0 : Nat, i0 = 0 := ⟨0, rfl⟩
      obtain ⟨cs0, hcs0, htr0⟩ := hel i0 (by omega)
      rw [hc4] at hcs0
      obtain ⟨z', rfl⟩ := attr_cells htr0
      have p0 := cells_get hcs0 0 _ rfl
      rw [Go.Deep.add_add, show i0 * 4 + 0 = 0 by omega] at p0
      obtain ⟨b, off, rfl⟩ := addr_plain p0
      have ad : ∀ k, (⟨b, off, none⟩ : Addr).add k = ⟨b, off + k, none⟩ := fun k => by unfold Addr.add; split <;> simp_all
      rw [ad] at c0 c1 c2 c3
      exact ⟨z, b, off, rfl, c0, c1, c2, c3⟩
    obtain ⟨f, hf'⟩ : ∃ f : Nat → AttrM, ∀ i, i < len → ∃ b off, x = ⟨b, off, none⟩ ∧ W.cell? ⟨b, off + i * 4, none⟩ = some (.int .i64 (f i).space) ∧ W.cell? ⟨b, off + i * 4 + 1, none⟩ = some (.string (f i).pre) ∧
        W.cell? ⟨b, off + i * 4 + 2, none⟩ = some (.string (f i).name) ∧ W.cell? ⟨b, off + i * 4 + 3, none⟩ = some (.string (f i).val) := by
      have : Inhabited AttrM := ⟨⟨0, ⟨#[]⟩, ⟨#[]⟩, ⟨#[]⟩⟩⟩
      exact Go.Deep.choose_lt one
    refine ⟨some x, cap, (List.range len).map f, by simp, ⟨fun i y hi => ?_⟩, fun hw => ?_⟩
    · have hlt : i < len := by have := (List.getElem?_eq_some_iff.1 hi).1; simpa using this
      have hy : f i = y := by simpa [hlt] using hi
      obtain ⟨b, off, e, c0, c1, c2, c3⟩ := hf' i hlt
      subst hy
      exact ⟨b, off, by rw [e], c0, c1, c2, c3⟩
    · have := List.all_eq_true.1 hw (((List.range len).map D).length * 56 + ((List.range (m - len)).map fun j => D (len + j)).length * 56) (by simp [DataW.weights, Try.underlying30, hb56, Nat.add_mul])
      simp [reachBytes] at this
      simp
      omega

/-- A call of a script: its twelve cells. -/
theorem op_cells {fuel : Nat} {cs : List Value} {x : DataW H × List MemPlace} (h : DataW.trod enc Try.prog W 0 spare held fuel 32 cs = some x) :
    ∃ o : OpM, cs = o.cells.toList ∧ AttrsIn W o.la o.l ∧ ((x.1.weights Try.prog 32).all (· ≤ reachBytes) = true → o.l.length * 56 ≤ 140737488351232) := by
  have hc32 : Try.prog.cellsOf 32 = 12 := by kernel_rfl
  have hc29 : Try.prog.cellsOf 29 = 4 := by kernel_rfl
  have hc30 : Try.prog.cellsOf 30 = 1 := by kernel_rfl
  have hc3 : Try.prog.cellsOf 3 = 1 := by kernel_rfl
  have hc9 : Try.prog.cellsOf 9 = 1 := by kernel_rfl
  obtain ⟨xs, k, _, rfl, hl4, hxl, hfs⟩ := DataW.trod_struct Try.underlying32 h
  rw [hc32] at hl4
  obtain ⟨e0, e1, e2, e3, e4, e5, e6, e7, e8, e9, e10, e11, rfl⟩ := list12 cs hl4
  have hx : xs.length = 9 := by simpa using hxl
  obtain ⟨y0, y1, y2, y3, y4, y5, y6, y7, y8, rfl⟩ := list9 xs hx
  have f0 := hfs 0 _ rfl
  have f1 := hfs 1 _ rfl
  have f2 := hfs 2 _ rfl
  have f3 := hfs 3 _ rfl
  have f4 := hfs 4 _ rfl
  have f5 := hfs 5 _ rfl
  have f6 := hfs 6 _ rfl
  have f7 := hfs 7 _ rfl
  have f8 := hfs 8 _ rfl
  simp [hc3, hc9, hc29, hc30] at f0 f1 f2 f3 f4 f5 f6 f7 f8
  obtain ⟨z0, g0, _, _⟩ := DataW.trod_int Try.underlying3 f0
  obtain ⟨z1, g1, _, _⟩ := DataW.trod_int Try.underlying3 f1
  obtain ⟨z2, g2, _, _⟩ := DataW.trod_int Try.underlying3 f2
  obtain ⟨z3, g3, _, _⟩ := DataW.trod_int Try.underlying3 f3
  obtain ⟨z4, g4, _, _⟩ := DataW.trod_int Try.underlying3 f4
  obtain ⟨z5, g5, _, _⟩ := DataW.trod_string Try.underlying9 f5
  obtain ⟨z6, g6, _, _⟩ := DataW.trod_string Try.underlying9 f6
  obtain ⟨z7, g7⟩ := attr_cells f7
  obtain ⟨la, cap, l, g8, hin, hw⟩ := attrs_cells f8
  simp at g0 g1 g2 g3 g4 g5 g6 g7 g8
  obtain ⟨g7, g9, g10, g11⟩ := g7
  subst g0 g1 g2 g3 g4 g5 g6 g7 g8 g9 g10 g11
  refine ⟨⟨z0, z1, z2, z3, z4, z5, z6, z7, la, cap, l⟩, rfl, hin, fun hall => hw (List.all_eq_true.2 fun n hn => List.all_eq_true.1 hall n ?_)⟩
  simp only [DataW.weights, Try.underlying32]
  exact DataW.weights_mem_each (j := 8) (t := 30) (d := y8.1) rfl rfl n hn

/-- A script that came in. -/
theorem script_open {a : Option Addr} {len cap : Nat} {d : DataW H} {ps : List MemPlace}
    (h : DataW.Trod enc Try.prog W 0 spare held 22 (.slice a len cap) d ps) (hsz : (d.weights Try.prog 22).all (· ≤ reachBytes) = true) : ∃ l : List OpM, l.length = len ∧ ScriptIn W a l ∧ len ≤ maxLen := by
  obtain ⟨fuel, hf⟩ := h
  rcases Go.Deep.open_slice Try.underlying22 hf with ⟨hcs, _⟩ | ⟨x, l, c, m, n, D, Pl, hcs, _, hlc, hcm, hm, hx, hel⟩
  · simp [Value.cells] at hcs
    obtain ⟨rfl, rfl, rfl⟩ := hcs
    exact ⟨[], rfl, ⟨fun i x hi => by simp at hi, fun i x hi => by simp at hi⟩, by simp⟩
  · simp [Value.cells] at hcs
    obtain ⟨rfl, rfl, rfl⟩ := hcs
    simp only [Prod.mk.injEq] at hx
    obtain ⟨rfl, _⟩ := hx
    have hc12 : Try.prog.cellsOf 32 = 12 := by kernel_rfl
    have hlm : len ≤ m := by rw [hm]; split <;> omega
    have one : ∀ i, i < len → ∃ o : OpM, (∃ b off, x = ⟨b, off, none⟩ ∧ ∀ j v, o.cells.toList[j]? = some v → W.cell? ⟨b, off + i * 12 + j, none⟩ = some v) ∧ AttrsIn W o.la o.l ∧ o.l.length * 56 ≤ 140737488351232 := by
      intro i hi
      obtain ⟨cs', hcs', htr⟩ := hel i (by omega)
      rw [hc12] at hcs'
      obtain ⟨o, rfl, hin, hw⟩ := op_cells htr
      refine ⟨o, ?_, hin, hw (List.all_eq_true.2 fun n hn => List.all_eq_true.1 hsz n ?_)⟩
      · obtain ⟨i0, hi0⟩ : ∃ i0 : Nat, i0 = 0 := ⟨0, rfl⟩
        obtain ⟨cs0, hcs0, htr0⟩ := hel i0 (by omega)
        rw [hc12] at hcs0
        obtain ⟨o', rfl, _, _⟩ := op_cells htr0
        have p0 := cells_get hcs0 0 _ rfl
        rw [Go.Deep.add_add, show i0 * 12 + 0 = 0 by omega] at p0
        obtain ⟨b, off, rfl⟩ := addr_plain p0
        have ad : ∀ k, (⟨b, off, none⟩ : Addr).add k = ⟨b, off + k, none⟩ := fun k => by unfold Addr.add; split <;> simp_all
        refine ⟨b, off, rfl, fun j v hj => ?_⟩
        have := cells_get hcs' j v hj
        rw [Go.Deep.add_add, ad] at this
        rw [Nat.add_assoc]
        exact this
      · simp only [DataW.weights, Try.underlying22, List.mem_cons, List.mem_append]
        exact .inr (.inl (weightsAll_mem (List.mem_map.2 ⟨i, List.mem_range.2 hi, rfl⟩) n hn))
    obtain ⟨f, hf'⟩ : ∃ f : Nat → OpM, ∀ i, i < len → (∃ b off, x = ⟨b, off, none⟩ ∧ ∀ j v, (f i).cells.toList[j]? = some v → W.cell? ⟨b, off + i * 12 + j, none⟩ = some v) ∧ AttrsIn W (f i).la (f i).l ∧ (f i).l.length * 56 ≤ 140737488351232 := by
      have : Inhabited OpM := ⟨⟨0, 0, 0, 0, 0, ⟨#[]⟩, ⟨#[]⟩, ⟨0, ⟨#[]⟩, ⟨#[]⟩, ⟨#[]⟩⟩, none, 0, []⟩⟩
      exact Go.Deep.choose_lt one
    have get : ∀ (i : Nat) y, ((List.range len).map f)[i]? = some y → i < len ∧ f i = y := by
      intro i y hi
      have hlt : i < len := by have := (List.getElem?_eq_some_iff.1 hi).1; simpa using this
      exact ⟨hlt, by simpa [hlt] using hi⟩
    refine ⟨(List.range len).map f, by simp, ⟨fun i y hi => ?_, fun i y hi => ?_⟩, by omega⟩
    · obtain ⟨hlt, rfl⟩ := get i y hi
      obtain ⟨⟨b, off, rfl, hc⟩, _, _⟩ := hf' i hlt
      exact ⟨b, off, rfl, hc 0 _ rfl, hc 1 _ rfl, hc 2 _ rfl, hc 3 _ rfl, hc 4 _ rfl, hc 5 _ rfl, hc 6 _ rfl, hc 7 _ rfl, hc 8 _ rfl, hc 9 _ rfl, hc 10 _ rfl, hc 11 _ rfl⟩
    · obtain ⟨hlt, rfl⟩ := get i y hi
      exact (hf' i hlt).2
end
end Go.Proofs.Ytlbkoafeedlfaaa

namespace Go.Proofs.Ytlbkoafeedlfaaa
open Go.RowKit

section
variable {w0 w W : World} {bA bR : Nat} {os : List OneM}

/-- The document's children, as a call. -/
theorem refKids_any {base g cap : Nat} {rs : List OneR} (h : Rf w base bR g cap rs) (k : Int) :
    Calls Try.prog 50 #[.pointer (some ⟨bR, 0, none⟩), .int .i64 k] w fun e w' => ∃ a c, e = .returned (.slice a (kidsO (osOf rs) k).length c) ∧ IntsIn w' a (kidsO (osOf rs) k) ∧ Below w.heap.size w w' := by
  cases hk : hasO (osOf rs) k with
  | false =>
    have e : kidsO (osOf rs) k = [] := by simp [kidsO, hk]
    have HIS := hide (refIs_any h k)
    rw [hk] at HIS
    rw [e]
    clear h hk e
    go_enter Try.func50, Try.ntmps50
    go_wp2_with (first | (go_at_call 79; refine (unhide HIS).mono ?_; rintro e w' ⟨rfl, rfl⟩))
    go_ret
    exact ⟨none, 0, rfl, ⟨fun i x hi => by simp at hi⟩, Below.refl _ _⟩
  | true =>
    obtain ⟨i, o, rfl, ho⟩ := hasO_yes hk
    obtain ⟨r, hr, rfl⟩ := osOf_back ho
    rw [kidsO_of ho]
    refine (refKids_in h i r hr).mono fun e w' ⟨v, h1, h2, h3⟩ => ?_
    obtain ⟨a, c, rfl, hin, _⟩ := ownsRow_ints h2
    exact ⟨a, c, h1, hin, h3⟩

/-- All that is asked of a number that is there. -/
structure Asks (w : World) (bA bR : Nat) (os : List OneM) (k : Int) : Prop where
  kids : ∀ W, Below w.heap.size w W → Calls Try.prog 19 #[.pointer (some ⟨bA, 0, none⟩), .int .i64 k] W fun e w' => ∃ a c, e = .returned (.slice a (kidsO os k).length c) ∧ IntsIn w' a (kidsO os k) ∧ Below W.heap.size W w'
  refKids : ∀ W, Below w.heap.size w W → Calls Try.prog 50 #[.pointer (some ⟨bR, 0, none⟩), .int .i64 k] W fun e w' => ∃ a c, e = .returned (.slice a (kidsO os k).length c) ∧ IntsIn w' a (kidsO os k) ∧ Below W.heap.size W w'
  few : (kidsO os k).length ≤ 32768
  host : ∃ x : Int, (∀ W, Below w.heap.size w W → Calls Try.prog 51 #[.pointer (some ⟨bA, 0, none⟩), .int .i64 k] W fun e w' => e = .returned (.int .i64 x) ∧ W = w') ∧ ∀ W, Below w.heap.size w W → Calls Try.prog 52 #[.pointer (some ⟨bR, 0, none⟩), .int .i64 k] W fun e w' => e = .returned (.int .i64 x) ∧ W = w'

theorem Both.asks (h : Both w0 w bA bR os) (k : Int) : Asks w bA bR os k := by
  obtain ⟨ns, F, G, hp⟩ := h
  refine ⟨fun W hb => ?_, fun W hb => ?_, ?_, ?_⟩
  · refine (kids_sim (hp.more hb).ar hp.sim k).mono fun e w' ⟨v, h1, h2, h3⟩ => ?_
    obtain ⟨a, c, rfl, hin, _⟩ := ownsRow_ints h2
    exact ⟨a, c, h1, hin, h3⟩
  · obtain ⟨g, cap, rs, h, rfl, _⟩ := (hp.more hb).rf
    exact refKids_any h k
  · cases hk : hasO os k with
    | false => simp [kidsO, hk]
    | true =>
      obtain ⟨i, o, rfl, ho⟩ := hasO_yes hk
      rw [kidsO_of ho]
      obtain ⟨bS, g, cap, har, _⟩ := hp.ar
      have hK := hp.sim.kids i o ho
      have := List.Nodup.length_le_of_subset hK.nodup (l₂ := List.range ns.length) (fun x hx => List.mem_range.2 (hK.mem x hx))
      have := har.most
      simp at *
      omega
  · refine ⟨hostM ns k, fun W hb => ?_, fun W hb => ?_⟩
    · obtain ⟨bS, g, cap, har, _⟩ := (hp.more hb).ar
      exact host_any har k
    · obtain ⟨g, cap, rs, h, rfl, _⟩ := (hp.more hb).rf
      have e : hostM ns k = if hasO (osOf rs) k then (((osOf rs)[k.toNat]?).map (·.host)).getD (-1) else -1 := by
        cases hk : hasO (osOf rs) k with
        | true =>
          obtain ⟨i, o, rfl, ho⟩ := hasO_yes hk
          rw [hp.sim.hostM ho]
          simp [ho]
        | false =>
          unfold hostM
          rw [if_neg]
          · simp
          · rintro ⟨h1, h2, _⟩
            rw [hp.sim.len] at h2
            have : hasO (osOf rs) k = true := by simp [hasO]; omega
            rw [hk] at this
            cases this
      rw [e]
      exact refHost_any h k
end
end Go.Proofs.Ytlbkoafeedlfaaa

namespace Go.Proofs.Ytlbkoafeedlfaaa
open Go.RowKit

theorem box12 {w5 w6 : World} {v0 v1 v2 v3 v4 v5 v6 v7 v8 v9 v10 v11 : Value} {t : TypeId} (hb : Below (w5.alloc (.cells #[v0, v1, v2, v3, v4, v5, v6, v7, v8, v9, v10, v11] t)).heap.size (w5.alloc (.cells #[v0, v1, v2, v3, v4, v5, v6, v7, v8, v9, v10, v11] t)) w6) :
    w6.cell? ⟨w5.heap.size, 0, none⟩ = some v0 ∧ w6.cell? ⟨w5.heap.size, 1, none⟩ = some v1 ∧ w6.cell? ⟨w5.heap.size, 2, none⟩ = some v2 ∧ w6.cell? ⟨w5.heap.size, 3, none⟩ = some v3 ∧ w6.cell? ⟨w5.heap.size, 4, none⟩ = some v4 ∧ w6.cell? ⟨w5.heap.size, 5, none⟩ = some v5 ∧ w6.cell? ⟨w5.heap.size, 6, none⟩ = some v6 ∧ w6.cell? ⟨w5.heap.size, 7, none⟩ = some v7 ∧ w6.cell? ⟨w5.heap.size, 8, none⟩ = some v8 ∧
    w6.cell? ⟨w5.heap.size, 9, none⟩ = some v9 ∧ w6.cell? ⟨w5.heap.size, 10, none⟩ = some v10 ∧ w6.cell? ⟨w5.heap.size, 11, none⟩ = some v11 ∧ w5.heap.size < w6.heap.size := by
  have hs := hb.size
  have hc : ∀ j, w6.cell? ⟨w5.heap.size, j, none⟩ = (w5.alloc (.cells #[v0, v1, v2, v3, v4, v5, v6, v7, v8, v9, v10, v11] t)).cell? ⟨w5.heap.size, j, none⟩ := fun j => hb.cell (p := ⟨w5.heap.size, j, none⟩) (by simp)
  refine ⟨?_, ?_, ?_, ?_, ?_, ?_, ?_, ?_, ?_, ?_, ?_, ?_, by simp at hs; omega⟩ <;> (rw [hc]; simp)

section
variable {w0 w W : World} {bA bR : Nat} {os : List OneM}

/-- What both Nodes tell of a number. -/
def Tells (w : World) (bA bR : Nat) (k : Int) : Prop :=
  ∃ (v0 v1 v6 v7 v8 v9 v10 v11 er : Int) (v2 v4 v5 : ByteArray) (l : List AttrM), l.length ≤ 1024 ∧
    (∀ W, Below w.heap.size w W → Calls Try.prog 18 #[.pointer (some ⟨bA, 0, none⟩), .int .i64 k] W fun e w' => ∃ a c, e = .returned (.tuple #[.agg #[.int .i64 v0, .int .i64 v1, .string v2, .slice a l.length c, .string v4, .string v5, .int .i64 v6, .int .i64 v7, .int .i64 v8, .int .i64 v9, .int .i64 v10, .int .i64 v11], .int .i64 er]) ∧ AttrsIn w' a l ∧ Below W.heap.size W w') ∧
    (∀ W, Below w.heap.size w W → Calls Try.prog 47 #[.pointer (some ⟨bR, 0, none⟩), .int .i64 k] W fun e w' => ∃ a c, e = .returned (.tuple #[.agg #[.int .i64 v0, .int .i64 v1, .string v2, .slice a l.length c, .string v4, .string v5, .int .i64 v6, .int .i64 v7, .int .i64 v8, .int .i64 v9, .int .i64 v10, .int .i64 v11], .int .i64 er]) ∧ AttrsIn w' a l ∧ Below W.heap.size W w')

theorem Both.tells (h : Both w0 w bA bR os) (k : Int) : Tells w bA bR k := by
  obtain ⟨ns, F, G, hp⟩ := h
  cases hk : hasO os k with
  | false =>
    refine ⟨0, 0, 0, 0, 0, 0, 0, 0, 6, ⟨#[]⟩, ⟨#[]⟩, ⟨#[]⟩, [], by simp, fun W hb => ?_, fun W hb => ?_⟩
    · refine (node_no (hp.more hb).ar k (by rw [hp.sim.hasM]; exact hk)).mono fun e w' ⟨h1, h2⟩ => ?_
      exact ⟨none, 0, h1, ⟨fun i x hi => by simp at hi⟩, h2⟩
    · obtain ⟨g, cap, rs, h, rfl, _⟩ := (hp.more hb).rf
      refine (refNode_no h k hk).mono fun e w' ⟨h1, h2⟩ => ?_
      exact ⟨none, 0, h1, ⟨fun i x hi => by simp at hi⟩, h2⟩
  | true =>
    obtain ⟨i, o, rfl, ho⟩ := hasO_yes hk
    obtain ⟨n, hn, _⟩ := hp.sim.get ho
    have ht := hp.sim.tell hn ho
    have hat : n.attrs = o.attrs := by rw [ht]; rfl
    have hfew : o.attrs.length ≤ 1024 := by
      obtain ⟨bS, g, cap, har, _⟩ := hp.ar
      rw [← hat]; exact har.few i n hn
    refine ⟨o.kind, o.space, o.up, headI o.kids, lastI o.kids, (nbr os i o).1, (nbr os i o).2, o.inner, 0, o.name, o.data, o.system, o.attrs, hfew, fun W hb => ?_, fun W hb => ?_⟩
    · refine (node_in (hp.more hb).ar i n hn).mono fun e w' ⟨ao, cp, h1, h2, h3, _⟩ => ?_
      obtain ⟨a2, c2, e2, hA⟩ := ownsRow_attrs h2
      simp only [Value.slice.injEq] at e2
      obtain ⟨rfl, _, _⟩ := e2
      refine ⟨ao, cp, ?_, hat ▸ hA, h3⟩
      rw [h1, hat]
      rw [ht]
      rfl
    · obtain ⟨g, cap, rs, h, rfl, _⟩ := (hp.more hb).rf
      obtain ⟨r, hr, rfl⟩ := osOf_back ho
      refine (refNode_in h hp.sim i r hr).mono fun e w' ⟨na, nc, h1, h2, h3⟩ => ?_
      exact ⟨na, nc, h1, h2, h3⟩

set_option maxHeartbeats 8000000 in
theorem same_any (h : Both w0 w bA bR os) :
    Calls Try.prog 16 #[.pointer (some ⟨bA, 0, none⟩), .pointer (some ⟨bR, 0, none⟩)] w fun e w' => e = .returned (.bool true) ∧ Below w.heap.size w w' := by
  have HH := hide h
  obtain ⟨ns, F, G, hp⟩ := h
  have hos : os.length ≤ 32768 := by
    obtain ⟨bS, g, cap, har, _⟩ := hp.ar
    rw [← hp.sim.len]; exact har.most
  have HL : Hid (∀ W, Below w.heap.size w W → ∃ g cap, W.cell? ⟨bR, 0, none⟩ = some (.slice (some ⟨g, 0, none⟩) os.length cap)) := hide (fun W hb => by
    obtain ⟨g, cap, rs, h, rfl, _⟩ := (hp.more hb).rf
    exact ⟨g, cap, by rw [osOf_len]; exact h.cR⟩)
  have HLEN : Hid (∀ W, Below w.heap.size w W → Calls Try.prog 17 #[.pointer (some ⟨bA, 0, none⟩)] W fun e w' => e = .returned (.int .i64 os.length) ∧ W = w') := hide (fun W hb => by
    obtain ⟨bS, g, cap, har, _⟩ := (hp.more hb).ar
    have := len_any har
    rw [hp.sim.len] at this
    exact this)
  clear hp
  go_enter Try.func16, Try.ntmps16
  go_wp2_with fail
  go_loopg [5] (os.length + 2) (fun k s wx => ∃ j : Nat, s = .int .i64 ((j : Int) - 1) ∧ j + k = os.length + 2 ∧ Below w.heap.size w wx)
  case atStart => exact ⟨0, rfl, by omega, Below.refl _ _⟩
  case round =>
    obtain ⟨j, rfl, hjk, hb⟩ := hrel
    obtain ⟨g, cp, hcR⟩ := (unhide HL) _ hb
    have HBW := hide hb
    by_cases hj : j < os.length + 2
    · obtain ⟨v0, v1, v6, v7, v8, v9, v10, v11, er, v2, v4, v5, l, hl, h18, h47⟩ := ((unhide HH).more hb).tells ((j : Int) - 1)
      have hA := ((unhide HH).more hb).asks ((j : Int) - 1)
      obtain ⟨x, h51, h52⟩ := hA.host
      have H18 := hide h18
      have H47 := hide h47
      have H19 := hide hA.kids
      have H50 := hide hA.refKids
      have H51 := hide h51
      have H52 := hide h52
      have HFEW := hide hA.few
      have hjz : (j : Int) - 1 ≤ (os.length : Int) := by omega
      clear h18 h47 h51 h52 hA hb
      obtain ⟨wy, hwy⟩ : ∃ wy, wy = wr := ⟨_, rfl⟩
      subst hwy
      set_option maxRecDepth 10000 in
      go_wp2_with (first
        | (go_at_call 18; refine ((unhide H18) _ (Below.refl _ _)).mono ?_; rintro e w5 ⟨a, ca, rfl, ha, hb5⟩; have HA5 := hide ha; have HB5 := hide hb5; clear ha hb5)
        | (go_at_call 47; refine ((unhide H47) _ ((unhide HB5).alloc (unhide HB5).size _)).mono ?_; rintro e w6 ⟨b, cb, rfl, hbb, hb6⟩; have HA6 := hide hbb; have HB6 := hide (((unhide HB5).alloc (unhide HB5).size _).trans (hb6.mono (by have := (unhide HB5).size; simp; omega))); have HA56 := hide (((unhide HA5).below ((Below.refl _ _).alloc (Nat.le_refl _) _)).below hb6); obtain ⟨x0, x1, x2, x3, x4, x5, x6, x7, x8, x9, x10, x11, hl56⟩ := box12 hb6; clear hbb hb6)
        | (go_at_call 48; refine (alike_any a b ca cb l ((unhide HA56).below ((Below.refl _ _).alloc (Nat.le_refl _) _)) ((unhide HA6).below ((Below.refl _ _).alloc (Nat.le_refl _) _)) hl v0 v1 v6 v7 v8 v9 v10 v11 v2 v4 v5).mono ?_; rintro e w7 ⟨rfl, hb7⟩; have HB7 := hide (((unhide HB6).alloc (unhide HB6).size _).trans (hb7.mono (by have := (unhide HB6).size; simp; omega))); clear hb7)
        | (go_at_call 19; refine ((unhide H19) _ (unhide HB7)).mono ?_; rintro e w8 ⟨ka, kca, rfl, hk8, hb8⟩; have HK8 := hide hk8; have HB8 := hide ((unhide HB7).trans (hb8.mono (unhide HB7).size)); clear hk8 hb8)
        | (go_at_call 50; refine ((unhide H50) _ (unhide HB8)).mono ?_; rintro e w9 ⟨kb, kcb, rfl, hk9, hb9⟩; have HK9 := hide hk9; have HK89 := hide ((unhide HK8).below hb9); have HB9 := hide ((unhide HB8).trans (hb9.mono (unhide HB8).size)); clear hk9 hb9)
        | (go_at_call 49; refine (ints_any ka kb kca kcb _ (unhide HK89) (unhide HK9) (unhide HFEW)).mono ?_; rintro e w10 ⟨rfl, hb10⟩; have HB10 := hide ((unhide HB9).trans (hb10.mono (unhide HB9).size)); clear hb10)
        | (go_at_call 51; refine ((unhide H51) _ (unhide HB10)).mono ?_; rintro e w11 ⟨rfl, rfl⟩)
        | (go_at_call 52; refine ((unhide H52) _ (unhide HB10)).mono ?_; rintro e w12 ⟨rfl, rfl⟩))
      go_roundg (gk - 1)
      case measure => omega
      case rel => exact ⟨j + 1, by rw [show (((j + 1 : Nat) : Int) - 1) = (j : Int) by omega], by omega, (unhide HBW).trans ((unhide HB10).mono (unhide HBW).size)⟩
    · have hjz : ¬ (j : Int) - 1 ≤ (os.length : Int) := by omega
      have hlt := World.block_lt_of_cell? wr _ hcR
      clear hb
      go_wp2_with fail
      go_quiet ((go_at_call 17; exact Calls.quiet_of_same (((unhide HLEN) _ (below_drewN' (unhide HBW) _)).mono fun _ _ ⟨h1, h2⟩ => ⟨h1, h2.symm⟩)))
      go_wp2
      go_ret
      exact ⟨by simp, below_drewN' (unhide HBW) _⟩
end
end Go.Proofs.Ytlbkoafeedlfaaa

namespace Go.Proofs.Ytlbkoafeedlfaaa
open Go.RowKit

set_option maxHeartbeats 4000000 in
theorem plays_walk {w : World} (a : Option Addr) (cap : Nat) (l : List OpM) (hs : ScriptIn w a l) (hn : l.length ≤ maxLen) :
    Calls Try.prog 3 #[.slice a l.length cap] w fun e w' => e = .returned (.bool true) ∧ Below w.heap.size w w' := by
  have HN := hide (new_any w w.heap.size (Nat.le_refl _))
  have HS := hide hs
  unfold maxLen at hn
  clear hs
  go_enter Try.func3, Try.ntmps3
  go_wp2_with (first
    | (go_at_call 13; refine (unhide HN).mono ?_; rintro e w1 ⟨F, rfl, h1, hb1, hF⟩; have HNR := hide (refNew_any w1 w.heap.size hb1.size); have H1 := hide h1; have HB1 := hide hb1; have HF := hide hF; clear h1 hb1 hF)
    | (go_at_call 14; refine (unhide HNR).mono ?_; rintro e w2 ⟨bR, g, cp, rfl, h2, hb2, hR, hg⟩; have HBo := hide (both_new (unhide H1) (unhide HB1) (unhide HF) h2 hb2 hR hg); clear h2 hb2 hR hg))
  go_loopg [5] l.length (fun k s wx => ∃ (j : Nat) (os : List OneM), s = .int .i64 j ∧ j + k = l.length ∧ Both w wx (w.heap.size + 3) bR os)
  case atStart => exact ⟨0, _, rfl, by omega, unhide HBo⟩
  case round =>
    obtain ⟨j, os, rfl, hjk, hB⟩ := hrel
    have HB := hide hB
    have HBW := hide (show Below w.heap.size w wr by obtain ⟨ns, F0, G0, hp⟩ := hB; exact hp.below)
    clear hB
    by_cases hj : j < l.length
    · have hx : l[j]? = some l[j] := List.getElem?_eq_getElem hj
      generalize l[j] = o at hx
      have hjz : (j : Int) < (l.length : Int) := by omega
      obtain ⟨ha, hr⟩ := (unhide HS).attrs j o hx
      obtain ⟨b, off, rfl, d0, d1, d2, d3, d4, d5, d6, d7, d8, d9, d10, d11⟩ := ((unhide HS).below (unhide HBW)).cells j o hx
      have HPL := hide (play_any (unhide HB) o ha hr)
      unfold OpM.cells at HPL
      clear ha hr hx
      by_cases h2 : (j : Int) < 200
      · have h3 : decide ((j : Int) < 200) = true := by simpa using h2
        go_wp2_with (first
          | (go_at_call 15; refine (unhide HPL).mono ?_; rintro e w5 ⟨rfl, os5, hB5⟩; have HB5 := hide hB5; clear hB5)
          | (go_at_call 16; refine (same_any (unhide HB5)).mono ?_; rintro e w6 ⟨rfl, hb6⟩; have HB6 := hide ((unhide HB5).more hb6); clear hb6))
        go_roundg (gk - 1)
        case measure => omega
        case rel => exact ⟨j + 1, os5, by go_num, by omega, unhide HB6⟩
      · have h3 : decide ((j : Int) < 200) = false := by simpa using h2
        go_wp2_with (first
          | (go_at_call 15; refine (unhide HPL).mono ?_; rintro e w5 ⟨rfl, os5, hB5⟩; have HB5 := hide hB5; clear hB5)
          | (go_at_call 16; refine (same_any (unhide HB5)).mono ?_; rintro e w6 ⟨rfl, hb6⟩; have HB6 := hide ((unhide HB5).more hb6); clear hb6))
        go_roundg (gk - 1)
        case measure => omega
        case rel => exact ⟨j + 1, os5, by go_num, by omega, unhide HB5⟩
    · have hjz : ¬ (j : Int) < (l.length : Int) := by omega
      go_wp2_with (first
        | (go_at_call 16; refine (same_any (unhide HB)).mono ?_; rintro e w6 ⟨rfl, hb6⟩; have HB6 := hide hb6; clear hb6))
      go_ret
      exact ⟨rfl, (unhide HBW).trans ((unhide HB6).mono (unhide HBW).size)⟩
end Go.Proofs.Ytlbkoafeedlfaaa

namespace Go.Proofs.Ytlbkoafeedlfaaa
open Go.RowKit

def totA (ns : List NodeM) : Nat := (ns.map fun n => n.attrs.length).sum
theorem totA_drop {ns : List NodeM} {i : Nat} {n : NodeM} (h : ns[i]? = some n) : totA (ns.drop i) = n.attrs.length + totA (ns.drop (i + 1)) := by
  have hlt := (List.getElem?_eq_some_iff.1 h).1
  have he := (List.getElem?_eq_some_iff.1 h).2
  rw [List.drop_eq_getElem_cons hlt, he]; simp [totA]
theorem totA_take {ns : List NodeM} {i : Nat} {n : NodeM} (h : ns[i]? = some n) : totA (ns.take (i + 1)) = totA (ns.take i) + n.attrs.length := by
  have hlt := (List.getElem?_eq_some_iff.1 h).1
  have he := (List.getElem?_eq_some_iff.1 h).2
  rw [List.take_succ_eq_append_getElem hlt, he]; simp [totA]
theorem totA_le (ns : List NodeM) (h : ∀ (i : Nat) n, ns[i]? = some n → n.attrs.length ≤ 1024) : totA ns ≤ ns.length * 1024 := by
  induction ns with
  | nil => simp [totA]
  | cons x l ih =>
    have h0 := h 0 x rfl
    have := ih (fun i n hi => h (i + 1) n (by simpa using hi))
    simp [totA] at this ⊢
    omega

theorem row12 {w : World} {base g cap : Nat} {ns : List NodeM} (h : w.ownsRow base 37 12 (.slice (some ⟨g, 0, none⟩) ns.length cap) ns.length (nodeRow ns)) {i : Nat} {n : NodeM} (hi : ns[i]? = some n) :
    w.cell? ⟨g, i * 12, none⟩ = some (.int .i64 n.kind) ∧ w.cell? ⟨g, i * 12 + 1, none⟩ = some (.int .i64 n.space) ∧ w.cell? ⟨g, i * 12 + 2, none⟩ = some (.string n.name) ∧
    w.cell? ⟨g, i * 12 + 3, none⟩ = some n.av ∧ w.cell? ⟨g, i * 12 + 4, none⟩ = some (.string n.data) ∧ w.cell? ⟨g, i * 12 + 5, none⟩ = some (.string n.system) ∧
    w.cell? ⟨g, i * 12 + 6, none⟩ = some (.int .i64 n.parent) ∧ w.cell? ⟨g, i * 12 + 7, none⟩ = some (.int .i64 n.first) ∧ w.cell? ⟨g, i * 12 + 8, none⟩ = some (.int .i64 n.last) ∧
    w.cell? ⟨g, i * 12 + 9, none⟩ = some (.int .i64 n.prev) ∧ w.cell? ⟨g, i * 12 + 10, none⟩ = some (.int .i64 n.next) ∧ w.cell? ⟨g, i * 12 + 11, none⟩ = some (.int .i64 n.inner) := by
  have hlt : i < ns.length := (List.getElem?_eq_some_iff.1 hi).1
  have hc : ∀ j, j < 12 → w.cell? ⟨g, i * 12 + j, none⟩ = n.cells[j]? := fun j hj => by
    rw [h.cellAt (i * 12 + j) (by omega), nodeRow, flat_get NodeM.cells 12 node_len ns i j hj, hi]; rfl
  exact ⟨hc 0 (by omega), hc 1 (by omega), hc 2 (by omega), hc 3 (by omega), hc 4 (by omega), hc 5 (by omega), hc 6 (by omega), hc 7 (by omega), hc 8 (by omega), hc 9 (by omega), hc 10 (by omega), hc 11 (by omega)⟩

/-- copy into the room that is left. -/
theorem run_seg_copy {W : World} {B g o r : Nat} {a : Option Addr} {c : Nat} {l : List AttrM} (h : Seg W B (.slice (some ⟨g, o, none⟩) 0 r) 0 []) (hl : AttrsIn W a l) (hn : l.length ≤ r) (ty : TypeId) :
    (Builtin.copy_ #[30, 30] ty #[.slice (some ⟨g, o, none⟩) r r, .slice a l.length c]).run Try.prog W = .ok (goInt l.length) (W.setCells g o (attrRow l)) := by
  obtain ⟨i0, hi0, hz0, hz1, hz2⟩ := info_parts Try.info29
  obtain ⟨cur, hg, hb, _, hmx, hs, hc⟩ := h.room
  have hlen : (attrRow l).length = l.length * 4 := flat_len AttrM.cells 4 attr_len l
  have hmin : Nat.min l.length r = l.length := Nat.min_eq_left hn
  have hst := run_storeCells_cells (P := Try.prog) g o (attrRow l) 0 W (by intro j hj; rw [cell_of_row W g _ cur 29 (0, 0) hg, Array.getElem?_eq_getElem (by omega)]; rfl) (by intro j _; exact h.frozenAt _) (attrs_oneCell l)
  simp only [Nat.add_zero] at hst
  by_cases h0 : l.length = 0
  · obtain rfl : l = [] := List.eq_nil_of_length_eq_zero h0
    have hl0 : ∀ (x : Addr), (loadCells x 0).run Try.prog W = .ok #[] W := fun x => by simpa using run_loadCells_list (P := Try.prog) W x [] (by simp)
    cases a <;> simp [Builtin.copy_, run_underlying Try.underlying30, Builtin.lenOf, Builtin.firstCells, sizeOf, typeInfo, hi0, storeCells, hl0, attrRow, World.setCells]
  · obtain ⟨b, off, rfl⟩ := Addr.of_lt hl (by omega)
    have hf := run_firstCells_some (P := Try.prog) W 4 l.length ⟨b, off, none⟩ l.length c (attrRow l) hlen hl.row
    simp [Builtin.copy_, run_underlying Try.underlying30, Builtin.lenOf, sizeOf, typeInfo, hi0, hz1, hmin, hf, hst]

structure SepS (w0 W : World) (base gN gA cap : Nat) (ns pre : List NodeM) (o r : Nat) : Prop where
  len : pre.length ≤ ns.length
  row : W.ownsRow base 37 12 (.slice (some ⟨gN, 0, none⟩) ns.length cap) ns.length (nodeRow (pre ++ ns.drop pre.length))
  same : ∀ (j : Nat) n', pre[j]? = some n' → ∃ n, ns[j]? = some n ∧ n' = { n with av := n'.av }
  segs : ∀ (j : Nat) n', pre[j]? = some n' → Seg W w0.heap.size n'.av n'.attrs.length (attrRow n'.attrs)
  all : Seg W w0.heap.size (.slice (some ⟨gA, o, none⟩) 0 r) 0 []
  left : r = totA (ns.drop pre.length)
  away : ∀ (j : Nat) n', pre[j]? = some n' → Away (.slice (some ⟨gA, o, none⟩) 0 r) n'.av
  apart : ∀ (i j : Nat) n m, i ≠ j → pre[i]? = some n → pre[j]? = some m → Away n.av m.av
  mod : Mod (fun k => k = gN) w0 W

theorem Seg.cut {W : World} {B g o n c : Nat} {xs : List Value} (h : Seg W B (.slice (some ⟨g, o, none⟩) n c) n xs) (c' : Nat) (h1 : n ≤ c') (h2 : c' ≤ c) : Seg W B (.slice (some ⟨g, o, none⟩) n c') n xs := by
  obtain ⟨cur, hg, hb, hn, hm, hs, hc⟩ := h.room
  exact ⟨h.1, .inr ⟨g, o, c', cur, rfl, hb, hg, h1, by omega, by omega, hc⟩⟩
theorem Seg.rest {W : World} {B g o n c : Nat} {xs : List Value} (h : Seg W B (.slice (some ⟨g, o, none⟩) n c) n xs) (o' c' : Nat) (h2 : c' ≤ c) (h3 : o' + c' * 4 ≤ o + c * 4) : Seg W B (.slice (some ⟨g, o', none⟩) 0 c') 0 [] := by
  obtain ⟨cur, hg, hb, hn, hm, hs, hc⟩ := h.room
  exact ⟨rfl, .inr ⟨g, o', c', cur, rfl, hb, hg, Nat.zero_le _, by omega, by omega, fun j hj => by omega⟩⟩

theorem SepS.step {w0 W : World} {base gN gA cap : Nat} {ns pre : List NodeM} {o r : Nat} (h : SepS w0 W base gN gA cap ns pre o r) (hgN : gN < w0.heap.size) {n : NodeM} (hn : ns[pre.length]? = some n) :
    n.attrs.length ≤ r ∧ SepS w0 ((W.setCells gA o (attrRow n.attrs)).setCell ⟨gN, pre.length * 12 + 3, none⟩ (.slice (some ⟨gA, o, none⟩) n.attrs.length n.attrs.length)) base gN gA cap ns
      (pre ++ [{ n with av := .slice (some ⟨gA, o, none⟩) n.attrs.length n.attrs.length }]) (if r = n.attrs.length then o else o + n.attrs.length * 4) (r - n.attrs.length) := by
  have hlt := (List.getElem?_eq_some_iff.1 hn).1
  have hleft := h.left
  rw [totA_drop hn] at hleft
  have hle : n.attrs.length ≤ r := by omega
  refine ⟨hle, ?_⟩
  generalize hm : n.attrs.length = m at *
  have hlen : (attrRow n.attrs).length = m * 4 := by rw [← hm]; exact flat_len AttrM.cells 4 attr_len _
  obtain ⟨w1, w2, w3⟩ := h.all.wrote (news := attrRow n.attrs) (Nat.le_refl 0) m hlen (by omega)
  simp only [Nat.zero_mul, Nat.add_zero, Nat.zero_add, List.take_nil, List.nil_append] at w1 w2 w3
  have hgA := (h.all.lt gA rfl)
  have hne : gA ≠ gN := by omega
  generalize hW1 : W.setCells gA o (attrRow n.attrs) = W1 at *
  have hother : ∀ k, k ≠ gN → (W1.setCell ⟨gN, pre.length * 12 + 3, none⟩ (.slice (some ⟨gA, o, none⟩) m m)).heap[k]? = W1.heap[k]? := fun k hk => Below.heap_setCell _ _ _ _ hk
  have hrow1 : W1.ownsRow base 37 12 (.slice (some ⟨gN, 0, none⟩) ns.length cap) ns.length (nodeRow (pre ++ ns.drop pre.length)) := ownsRow_kept h.row (fun k hk => by
    simp [Value.ownBlock] at hk; subst hk
    exact w2.block gN (h.row.lt gN rfl).2 (by simp; omega))
  have hseg1 : ∀ (j : Nat) n', pre[j]? = some n' → Seg W1 w0.heap.size n'.av n'.attrs.length (attrRow n'.attrs) := fun j n' hj =>
    (h.segs j n' hj).away h.all (h.away j n' hj) w3 (fun k hk hne => w2.block k ((h.segs j n' hj).lt k hk).2 (fun e => hne (show some gA = some k from e.symm)))
  have far : ∀ {v : Value} {k : Nat} {xs : List Value}, Seg W1 w0.heap.size v k xs → Seg (W1.setCell ⟨gN, pre.length * 12 + 3, none⟩ (.slice (some ⟨gA, o, none⟩) m m)) w0.heap.size v k xs := fun hs => hs.other (fun e => by have := (hs.lt gN e).1; omega) _
  have hcase : ∀ (j : Nat) x, (pre ++ [{ n with av := Value.slice (some ⟨gA, o, none⟩) m m }])[j]? = some x → (j < pre.length ∧ pre[j]? = some x) ∨ (j = pre.length ∧ x = { n with av := Value.slice (some ⟨gA, o, none⟩) m m }) := by
    intro j x hx
    by_cases hj : j < pre.length
    · rw [List.getElem?_append_left hj] at hx; exact .inl ⟨hj, hx⟩
    · rw [List.getElem?_append_right (by omega)] at hx
      have : j - pre.length = 0 := by
        have := (List.getElem?_eq_some_iff.1 hx).1
        simp at this; omega
      rw [this] at hx
      simp at hx
      exact .inr ⟨by omega, hx.symm⟩
  have hnew : ∀ (j : Nat) x, pre[j]? = some x → Away (.slice (some ⟨gA, o, none⟩) m m) x.av := by
    intro j x hx g off k c off' k' c' e1 e2
    cases e1
    have := h.away j x hx gA o 0 r off' k' c' rfl e2
    omega
  refine ⟨by simp; omega, ?_, ?_, ?_, ?_, ?_, ?_, ?_, ?_⟩
  · have hset : nodeRow ((pre ++ [{ n with av := Value.slice (some ⟨gA, o, none⟩) m m }]) ++ ns.drop (pre ++ [{ n with av := Value.slice (some ⟨gA, o, none⟩) m m }]).length) = (nodeRow (pre ++ ns.drop pre.length)).set (pre.length * 12 + 3) (.slice (some ⟨gA, o, none⟩) m m) := by
      have hx : (pre ++ ns.drop pre.length)[pre.length]? = some n := by rw [List.getElem?_append_right (Nat.le_refl _)]; simp [hn]
      rw [nodeRow, nodeRow, flat_set NodeM.cells 12 node_len _ pre.length 3 (by omega) n { n with av := .slice (some ⟨gA, o, none⟩) m m } _ hx (by simp [NodeM.cells])]
      have hd : ns.drop pre.length = n :: ns.drop (pre.length + 1) := by rw [List.drop_eq_getElem_cons hlt, (List.getElem?_eq_some_iff.1 hn).2]
      rw [hd, List.set_append_right _ _ (Nat.le_refl _)]
      simp
    rw [hset]
    exact (hrow1.stored (pre.length * 12 + 3) _).1
  · intro j x hx
    rcases hcase j x hx with ⟨_, hx'⟩ | ⟨rfl, rfl⟩
    · exact h.same j x hx'
    · exact ⟨n, hn, rfl⟩
  · intro j x hx
    rcases hcase j x hx with ⟨_, hx'⟩ | ⟨rfl, rfl⟩
    · exact far (hseg1 j x hx')
    · have := far (w1.cut m (Nat.le_refl _) hle)
      rw [← hm] at this ⊢
      exact this
  · refine far (w1.rest _ _ (by omega) ?_)
    split <;> omega
  · rw [List.length_append]
    show r - m = totA (ns.drop (pre.length + 1))
    omega
  · intro j x hx
    rcases hcase j x hx with ⟨_, hx'⟩ | ⟨rfl, rfl⟩
    · intro g off k c off' k' c' e1 e2
      cases e1
      have := h.away j x hx' gA o 0 r off' k' c' rfl e2
      split <;> omega
    · intro g off k c off' k' c' e1 e2
      cases e1; cases e2
      split <;> omega
  · intro i j x y hij hx hy
    rcases hcase i x hx with ⟨_, hx'⟩ | ⟨ei, rfl⟩ <;> rcases hcase j y hy with ⟨_, hy'⟩ | ⟨ej, rfl⟩
    · exact h.apart i j x y hij hx' hy'
    · exact (hnew i x hx').symm
    · exact hnew j y hy'
    · omega
  · refine Mod.trans ⟨w2.os.trans h.mod.os, w2.tape.trans h.mod.tape, w2.output.trans h.mod.output, Nat.le_trans h.mod.size w2.size, fun k hk hf => ?_⟩ (Mod.setCell _ _ _ rfl)
    rw [w2.block k (Nat.lt_of_lt_of_le hk h.mod.size) (by simp; omega)]
    exact h.mod.block k hk hf
end Go.Proofs.Ytlbkoafeedlfaaa

namespace Go.Proofs.Ytlbkoafeedlfaaa
open Go.RowKit

theorem totA_parts (ns : List NodeM) (j : Nat) : totA (ns.take j) + totA (ns.drop j) = totA ns := by
  have : totA (ns.take j ++ ns.drop j) = totA (ns.take j) + totA (ns.drop j) := by simp only [totA, List.map_append, List.sum_append]
  rw [← this, List.take_append_drop]

theorem attrs_far {w W : World} {gN : Nat} {a : Option Addr} {l : List AttrM} (h : AttrsIn w a l) (hm : Mod (fun k => k = gN) w W) (hf : ∀ b o, a = some ⟨b, o, none⟩ → b < w.heap.size ∧ b ≠ gN) : AttrsIn W a l := ⟨fun i x hi => by
  obtain ⟨b, off, e, c0, c1, c2, c3⟩ := h.cells i x hi
  have hc := fun (j : Nat) => World.cell?_of_block (w := w) (w' := W) (a := ⟨b, j, none⟩) (hm.block b (hf b off e).1 (hf b off e).2)
  exact ⟨b, off, e, (hc _).trans c0, (hc _).trans c1, (hc _).trans c2, (hc _).trans c3⟩⟩

set_option maxRecDepth 100000 in
set_option maxHeartbeats 2000000 in
theorem sep_any {w : World} {base gN cap : Nat} {ns : List NodeM} (hrow : w.ownsRow base 37 12 (.slice (some ⟨gN, 0, none⟩) ns.length cap) ns.length (nodeRow ns)) (hlen : ns.length ≤ 32768)
    (hfew : ∀ (i : Nat) n, ns[i]? = some n → n.attrs.length ≤ 1024)
    (hsrc : ∀ (i : Nat) n, ns[i]? = some n → ∃ a c, n.av = .slice a n.attrs.length c ∧ AttrsIn w a n.attrs ∧ ∀ b o, a = some ⟨b, o, none⟩ → b < w.heap.size ∧ b ≠ gN) :
    Calls Try.prog 58 #[.slice (some ⟨gN, 0, none⟩) ns.length cap] w fun e w' => e = .returned (.tuple #[]) ∧ ∃ ns' gA o, SepS w w' base gN gA cap ns ns' o 0 ∧ ns'.length = ns.length := by
  have hgN := (hrow.lt gN rfl).2
  have HR := hide hrow
  have HF := hide hfew
  have HS := hide hsrc
  have HT := hide (totA_le ns hfew)
  obtain ⟨i0, hi, hz0, hz1, hz2⟩ := info_parts Try.info29
  clear hrow hfew hsrc
  go_enter Try.func58, Try.ntmps58
  go_wp2_with fail
  go_loopg [2, 10] ns.length (fun k s2 s10 wx => ∃ j : Nat, s10 = .int .i64 j ∧ j + k = ns.length ∧ s2 = .int .i64 (totA (ns.take j) : Nat) ∧ Below w.heap.size w wx)
  case atStart => exact ⟨0, rfl, by omega, by simp [totA], Below.refl _ _⟩
  case round =>
    obtain ⟨j, rfl, hjk, rfl, hB⟩ := hrel
    by_cases hj : j < ns.length
    · have hx : ns[j]? = some ns[j] := List.getElem?_eq_getElem hj
      generalize ns[j] = n at hx
      have hjz : (j : Int) < (ns.length : Int) := by omega
      have hrw : wr.ownsRow base 37 12 (.slice (some ⟨gN, 0, none⟩) ns.length cap) ns.length (nodeRow ns) := ownsRow_kept (unhide HR) (fun k hk => by simp [Value.ownBlock] at hk; subst hk; exact hB.block _ hgN)
      obtain ⟨c0, c1, c2, c3, c4, c5, c6, c7, c8, c9, c10, c11⟩ := row12 hrw hx
      obtain ⟨a, c, hav, _⟩ := (unhide HS) j n hx
      rw [hav] at c3
      have hsm : (totA (ns.take j) : Int) + (n.attrs.length : Int) ≤ 33554432 := by
        have h1 := totA_parts ns j
        have h2 := totA_drop hx
        have h3 := unhide HT
        omega
      have HX := hide hx
      have HB := hide hB
      clear hx hB hrw hav
      go_wp2_with fail
      go_roundg (gk - 1)
      case measure => omega
      case rel => exact ⟨j + 1, by go_num, by omega, by rw [totA_take (unhide HX)]; simp, (unhide HB).alloc (unhide HB).size _⟩
    · have hjz : ¬ (j : Int) < (ns.length : Int) := by omega
      obtain rfl : j = ns.length := by omega
      rw [List.take_of_length_le (Nat.le_refl _)]
      have htot : totA ns ≤ 33554432 := by have := unhide HT; omega
      have hbw : w.heap.size ≤ wr.heap.size := hB.size
      have HB := hide hB
      clear hB
      generalize htt : totA ns = t at *
      go_wp2_with (at_make; go_must (refine wpList_make_full _ rfl _ _ 30 rfl w.heap.size 29 i0 _ 4 Try.underlying30 hi hz0 hz1 _ _ _ _ t rfl rfl rfl rfl (by rw [hz2]; omega) (by unfold maxLen; omega) hbw ?_); intro w1 hown1 hgrow1)
      have HI := hide (show SepS w w1 base gN wr.heap.size cap ns [] 0 t from
        ⟨by simp, by
          simp only [List.length_nil, List.drop_zero, List.nil_append]
          exact ownsRow_kept (unhide HR) (fun k hk => by simp [Value.ownBlock] at hk; subst hk; exact (hgrow1.block _ (by omega) (by simp)).trans ((unhide HB).block _ hgN)),
        fun j n' hj => by simp at hj, fun j n' hj => by simp at hj, (Seg.of hown1).rest 0 t (Nat.le_refl _) (Nat.le_refl _), by rw [List.length_nil, List.drop_zero, htt], fun j n' hj => by simp at hj, fun i j n m _ hi => by simp at hi,
        (Mod.of_below (unhide HB)).trans (Mod.grown hgrow1 (fun k hk => by cases hk))⟩)
      clear hown1 hgrow1 hbw HB hjz hjk hj
      generalize wr.heap.size = gA at *
      clear wr
      go_loopg [5, 24] ns.length (fun k s5 s24 wx => ∃ (pre : List NodeM) (o r : Nat), s24 = .int .i64 pre.length ∧ pre.length + k = ns.length ∧ s5 = .slice (some ⟨gA, o, none⟩) r r ∧ SepS w wx base gN gA cap ns pre o r)
      case atStart => exact ⟨[], 0, t, rfl, by simp, rfl, unhide HI⟩
      case round =>
        obtain ⟨pre, o, r, rfl, hjk, rfl, hS⟩ := hrel
        by_cases hj : pre.length < ns.length
        · have hx : ns[pre.length]? = some ns[pre.length] := List.getElem?_eq_getElem hj
          generalize ns[pre.length] = n at hx
          have hjz : (pre.length : Int) < (ns.length : Int) := by omega
          obtain ⟨hle, hst⟩ := hS.step hgN hx
          obtain ⟨a, c, hav, hin, hfar⟩ := (unhide HS) _ n hx
          have hx2 : (pre ++ ns.drop pre.length)[pre.length]? = some n := by rw [List.getElem?_append_right (Nat.le_refl _)]; simp [hx]
          have hlen2 : (pre ++ ns.drop pre.length).length = ns.length := by simp; omega
          have hrow := hS.row
          rw [← hlen2] at hrow
          have c3 := (row12 hrow hx2).2.2.2.1
          have fz := hrow.frozenAt (pre.length * 12 + 3)
          rw [hav] at c3
          have hcp := fun ty => run_seg_copy (c := c) hS.all (attrs_far hin hS.mod hfar) hle ty
          have hne : gN ≠ gA := by have := hS.all.lt gA rfl; omega
          have c3' : (wr.setCells gA o (attrRow n.attrs)).cell? ⟨gN, pre.length * 12 + 3, none⟩ = some (.slice a n.attrs.length c) := (World.cell?_of_block (setCells_other gA gN hne _ _ _)).trans c3
          have fz' : (wr.setCells gA o (attrRow n.attrs)).frozen? ⟨gN, pre.length * 12 + 3, none⟩ = false := (World.frozen?_of_block (setCells_other gA gN hne _ _ _)).trans fz
          have hn1 : n.attrs.length ≤ 1024 := (unhide HF) _ n hx
          have hr1 : r ≤ 33554432 := by have h1 := hS.left; have h2 := totA_parts ns pre.length; omega
          have hlen1 : (pre ++ [{ n with av := Value.slice (some ⟨gA, o, none⟩) n.attrs.length n.attrs.length }]).length = pre.length + 1 := by simp
          have HST := hide hst
          have HL1 := hide hlen1
          clear hS hst hx hx2 hlen2 hrow hav hin hfar hlen1
          generalize hm : n.attrs.length = m at *
          by_cases he : r = m
          · rw [if_pos he] at HST
            subst he
            rw [Nat.sub_self] at HST
            go_wp2_with fail
            go_roundg (gk - 1)
            case measure => omega
            case rel => exact ⟨_, _, _, by rw [unhide HL1]; go_num, by rw [unhide HL1]; omega, by first | rfl | simp, unhide HST⟩
          · rw [if_neg he] at HST
            go_wp2_with fail
            go_roundg (gk - 1)
            case measure => omega
            case rel => exact ⟨_, _, _, by rw [unhide HL1]; go_num, by rw [unhide HL1]; omega, rfl, unhide HST⟩
        · have hjz : ¬ (pre.length : Int) < (ns.length : Int) := by omega
          have hlp : pre.length = ns.length := by have := hS.len; omega
          have hr0 : r = 0 := by have := hS.left; rw [hlp, List.drop_length] at this; simpa [totA] using this
          subst hr0
          have HST := hide hS
          clear hS
          go_wp2_with fail
          go_end0
          exact ⟨rfl, pre, ⟨gA, o, unhide HST⟩, hlp⟩
end Go.Proofs.Ytlbkoafeedlfaaa

namespace Go.Proofs.Ytlbkoafeedlfaaa
open Go.RowKit

/-- The same nodes, their attributes elsewhere. -/
def AvOnly (ns ns' : List NodeM) : Prop := ns'.length = ns.length ∧ ∀ (j : Nat) n', ns'[j]? = some n' → ∃ n, ns[j]? = some n ∧ n' = { n with av := n'.av }

theorem copy_ar {w1 w2 : World} {base gN gA cap o : Nat} {ns ns' : List NodeM} (hS : SepS w1 w2 base gN gA cap ns ns' o 0) (hl : ns'.length = ns.length) (hpos : 0 < ns.length) (hmost : ns.length ≤ 32768)
    (hfew : ∀ (i : Nat) n, ns[i]? = some n → n.attrs.length ≤ 1024) (hb : base ≤ w1.heap.size) :
    Ar ((w2.alloc (.cells #[.slice (some ⟨gN, 0, none⟩) ns.length cap] 72)).alloc (.cells #[.pointer (some ⟨w2.heap.size, 0, none⟩)] 74)) base (w2.heap.size + 1) w2.heap.size gN cap ns' := by
  have hsz := hS.mod.size
  have hrow := hS.row
  rw [hl, List.drop_length, List.append_nil] at hrow
  have seg : ∀ (i : Nat) n, ns'[i]? = some n → Seg w2 base n.av n.attrs.length (attrRow n.attrs) := fun i n hi => by
    have := hS.segs i n hi
    refine ⟨this.1, this.2.imp id ?_⟩
    rintro ⟨g, off, c, cur, e, h1, r⟩
    exact ⟨g, off, c, cur, e, by omega, r⟩
  refine ⟨?_, ?_, ?_, by omega, by omega, by omega, by omega, fun i n hi => ((seg i n hi).alloc _).alloc _, fun i n hi => ?_, hS.apart⟩
  · have := heap_alloc_new (w2.alloc (.cells #[.slice (some ⟨gN, 0, none⟩) ns.length cap] 72)) (.cells #[.pointer (some ⟨w2.heap.size, 0, none⟩)] 74)
    simpa using this
  · rw [Below.heap_alloc _ _ _ (by simp), hl]
    exact heap_alloc_new w2 _
  · rw [hl]; exact (hrow.alloc _).alloc _
  · obtain ⟨m, h1, h2⟩ := hS.same i n hi
    have := hfew i m h1
    rw [h2]; exact this

theorem Try.size37 : (Try.prog.info? 37).map (·.size) = some 12 := by kernel_rfl

theorem copy_below {w w1 w2 : World} (h1 : w.grownBy w1 none) (h2 : w1.grownBy w2 (some w.heap.size)) : Below w.heap.size w w2 ∧ w.heap.size ≤ w2.heap.size :=
  ⟨((Below.refl _ w).grown h1 (Nat.le_refl _) (by simp)).grown h2 h1.size (fun k hk => by simp at hk; omega), Nat.le_trans h1.size h2.size⟩

theorem copy_sep {w w2 : World} {base bA bS g cap c2 : Nat} {ns : List NodeM} (h : Ar w base bA bS g cap ns) (hb : Below w.heap.size w w2 ∧ w.heap.size ≤ w2.heap.size) (hrow : w2.ownsRow w.heap.size 37 12 (.slice (some ⟨w.heap.size, 0, none⟩) ns.length c2) ns.length (nodeRow ns)) :
    Calls Try.prog 58 #[.slice (some ⟨w.heap.size, 0, none⟩) ns.length c2] w2 fun e w' => e = .returned (.tuple #[]) ∧ ∃ ns' gA o, SepS w2 w' w.heap.size w.heap.size gA c2 ns ns' o 0 ∧ ns'.length = ns.length := by
  refine sep_any hrow h.most h.few (fun i n hi => ?_)
  obtain ⟨a, c, hav, hin⟩ := seg_attrs (h.attrs i n hi)
  refine ⟨a, c, hav, hin.below hb.1, fun b o e => ?_⟩
  have := (h.attrs i n hi).lt b (by rw [hav, e]; rfl)
  omega

set_option maxRecDepth 100000 in
set_option maxHeartbeats 2000000 in
theorem copy_any {w : World} {base bA bS g cap : Nat} {ns : List NodeM} (h : Ar w base bA bS g cap ns) :
    Calls Try.prog 22 #[.pointer (some ⟨bA, 0, none⟩)] w fun e w' => ∃ bA' bS' g' cap' ns', e = .returned (.pointer (some ⟨bA', 0, none⟩)) ∧ Ar w' w.heap.size bA' bS' g' cap' ns' ∧ AvOnly ns ns' ∧ Below w.heap.size w w' ∧ bA' < w'.heap.size := by
  have hA := h.cA
  have hS := h.cS
  have hmost := h.most
  have hpos := h.pos
  have HM := hide (made_yes h)
  have HA := hide h
  obtain ⟨i0, hi, hz0, hz1, hz2⟩ := info_parts Try.info37
  have ltS := h.lt.2.1
  have ltA := h.lt.1
  have ltg := h.lt.2.2
  have HR := hide (h.row.cells (g := g) rfl)
  have hnl : (nodeRow ns).length = ns.length * 12 := flat_len NodeM.cells 12 node_len ns
  have HN := hide hnl
  have HO := hide (nodes_oneCell ns (fun n hn => by obtain ⟨i, hi⟩ := List.mem_iff_getElem?.1 hn; exact (h.attrs i n hi).oneCell))
  clear h hnl
  go_enter Try.func22, Try.ntmps22
  go_wp2_with (first
    | (go_at_call 53; refine (unhide HM).mono ?_; rintro e w' ⟨rfl, rfl⟩)
    | (at_make; go_must (refine wpList_make_full _ rfl _ _ 70 rfl w.heap.size 37 i0 _ 12 Try.underlying70 hi hz0 hz1 _ _ _ _ ns.length rfl rfl rfl rfl (by rw [hz2]; omega) (by unfold maxLen; omega) (Nat.le_refl _) ?_); intro w1 hown1 hgrow1; have hA1 : w1.cell? ⟨bA, 0, none⟩ = some (.pointer (some ⟨bS, 0, none⟩)) := (hgrow1.cell_far ⟨bA, 0, none⟩ (by simp; omega) (by simp)).trans hA; have hS1 : w1.cell? ⟨bS, 0, none⟩ = some (.slice (some ⟨g, 0, none⟩) ns.length cap) := (hgrow1.cell_far ⟨bS, 0, none⟩ (by simp; omega) (by simp)).trans hS)
    | (refine wpList_copy_full rfl _ _ 70 70 rfl w.heap.size 37 12 Try.underlying70 Try.size37 w.heap.size ns.length ns.length _ ⟨g, 0, none⟩ cap rfl rfl hown1 (nodeRow ns) (unhide HN) (fun j v hv => (hgrow1.cell ((unhide HR) j v hv) (by rw [add_at]; simp))) (unhide HO) ?_; intro w2 hown2 hgrow2; have hb2 := copy_below hgrow1 hgrow2; have HO2 := hide hown2; have HB2 := hide hb2; clear hown2 hgrow2 hb2 hown1 hgrow1)
    | (go_at_call 58; refine (copy_sep (unhide HA) (unhide HB2) (unhide HO2)).mono ?_; rintro e w3 ⟨rfl, ns', gA, o, hs3, hl3⟩; have HS3 := hide hs3; have HL3 := hide hl3; clear hs3 hl3))
  go_ret
  have hb3 : Below w.heap.size w w3 := (unhide HB2).1.trans ((unhide HS3).mod.below (unhide HB2).2 (fun k hk => by omega))
  exact ⟨_, _, _, _, ns', rfl, copy_ar (unhide HS3) (unhide HL3) hpos hmost (unhide HA).few (unhide HB2).2, ⟨unhide HL3, (unhide HS3).same⟩, (hb3.alloc hb3.size _).alloc (by have := hb3.size; simp; omega) _, by simp⟩
end Go.Proofs.Ytlbkoafeedlfaaa

namespace Go.Proofs.Ytlbkoafeedlfaaa
open Go.RowKit

/-- A copy under way. -/
structure CpS (w wx : World) (v : Value) (rs : List OneR) : Prop where
  cell : wx.heap[w.heap.size]? = some (.cells #[v] 79 (0, 0))
  own : wx.ownsRow w.heap.size 76 10 v rs.length (oneRow rs)
  attrs : ∀ (i : Nat) r, rs[i]? = some r → ∃ a cp, r.av = .slice a r.o.attrs.length cp ∧ AttrsIn wx a r.o.attrs ∧ r.o.attrs.length ≤ 1024 ∧ r.o.attrs.length ≤ cp
  kids : ∀ (i : Nat) r, rs[i]? = some r → ∃ a cp, r.kv = .slice a r.o.kids.length cp ∧ IntsIn wx a r.o.kids ∧ r.o.kids.length ≤ 32768
  held : ∀ (i : Nat) r, rs[i]? = some r → ∀ k, (blk r.av = some k ∨ blk r.kv = some k) → w.heap.size < k ∧ k < wx.heap.size ∧ v.ownBlock ≠ some k
  below : Below w.heap.size w wx

theorem CpS.ownLt {w wx : World} {v : Value} {rs : List OneR} (h : CpS w wx v rs) {k : Nat} (e : v.ownBlock = some k) : k < wx.heap.size := by
  obtain ⟨cur, hc⟩ := ownsRow_block h.own e
  exact lt_of_block hc
theorem CpS.ownNe {w wx : World} {v : Value} {rs : List OneR} (h : CpS w wx v rs) : v.ownBlock ≠ some w.heap.size := fun e => by
  obtain ⟨cur, hc⟩ := ownsRow_block h.own e
  rw [h.cell] at hc
  simp at hc
theorem CpS.more {w wx w' : World} {v : Value} {rs : List OneR} (h : CpS w wx v rs) (hb : Below wx.heap.size wx w') : CpS w w' v rs := by
  have hlt := lt_of_block h.cell
  refine ⟨(hb.block _ hlt).trans h.cell, ownsRow_kept h.own (fun k e => hb.block k (h.ownLt e)), fun i r hi => ?_, fun i r hi => ?_, fun i r hi k e => ?_, h.below.trans (hb.mono h.below.size)⟩
  · obtain ⟨a, cp, e, ha, hl⟩ := h.attrs i r hi
    exact ⟨a, cp, e, ha.below hb, hl⟩
  · obtain ⟨a, cp, e, ha, hl⟩ := h.kids i r hi
    exact ⟨a, cp, e, ha.below hb, hl⟩
  · obtain ⟨h1, h2, h3⟩ := h.held i r hi k e
    exact ⟨h1, Nat.lt_of_lt_of_le h2 hb.size, h3⟩

/-- What a copied node's two lists must be. -/
structure CpL (w W : World) (v : Value) (r : OneR) : Prop where
  attrs : ∃ a cp, r.av = .slice a r.o.attrs.length cp ∧ AttrsIn W a r.o.attrs ∧ r.o.attrs.length ≤ 1024 ∧ r.o.attrs.length ≤ cp
  kids : ∃ a cp, r.kv = .slice a r.o.kids.length cp ∧ IntsIn W a r.o.kids ∧ r.o.kids.length ≤ 32768
  held : ∀ k, (blk r.av = some k ∨ blk r.kv = some k) → w.heap.size < k ∧ k < W.heap.size ∧ v.ownBlock ≠ some k

theorem CpS.grow {w W w1 : World} {v : Value} {rs : List OneR} {g' cap' : Nat} (h : CpS w W v rs) (r : OneR) (hr : CpL w W v r)
    (hown : w1.ownsRow w.heap.size 76 10 (.slice (some ⟨g', 0, none⟩) (rs.length + 1) cap') (rs.length + 1) (oneRow rs ++ r.cells)) (hgrow : W.grownBy w1 v.ownBlock) (hat : v.ownBlock = some g' ∨ W.heap.size ≤ g') :
    CpS w (w1.setCell ⟨w.heap.size, 0, none⟩ (.slice (some ⟨g', 0, none⟩) (rs.length + 1) cap')) (.slice (some ⟨g', 0, none⟩) (rs.length + 1) cap') (rs ++ [r]) := by
  have hlt := lt_of_block h.cell
  have b1 : ∀ k, k < W.heap.size → v.ownBlock ≠ some k → w1.heap[k]? = W.heap[k]? := fun k hk hne => hgrow.block k hk (fun e => hne e.symm)
  have hR1 := (b1 _ hlt h.ownNe).trans h.cell
  have hgR : g' ≠ w.heap.size := by
    intro e; subst e
    obtain ⟨cur, hc⟩ := ownsRow_block hown (k := w.heap.size) rfl
    rw [hc] at hR1; simp at hR1
  have b2 : ∀ k, k ≠ w.heap.size → (w1.setCell ⟨w.heap.size, 0, none⟩ (.slice (some ⟨g', 0, none⟩) (rs.length + 1) cap')).heap[k]? = w1.heap[k]? := fun k hk => Below.heap_setCell _ _ _ _ hk
  have hsz : W.heap.size ≤ (w1.setCell ⟨w.heap.size, 0, none⟩ (.slice (some ⟨g', 0, none⟩) (rs.length + 1) cap')).heap.size := Nat.le_trans hgrow.size (Mod.setCell (F := fun _ => True) w1 ⟨w.heap.size, 0, none⟩ _ trivial).size
  have all : ∀ (i : Nat) x, (rs ++ [r])[i]? = some x → CpL w (w1.setCell ⟨w.heap.size, 0, none⟩ (.slice (some ⟨g', 0, none⟩) (rs.length + 1) cap')) (.slice (some ⟨g', 0, none⟩) (rs.length + 1) cap') x := by
    intro i x hx
    have hL : CpL w W v x := by
      by_cases hl : i < rs.length
      · rw [List.getElem?_append_left hl] at hx; exact ⟨h.attrs i x hx, h.kids i x hx, h.held i x hx⟩
      · rw [List.getElem?_append_right (by omega)] at hx
        have := List.mem_of_getElem? hx
        simp at this; subst this; exact hr
    have hk : ∀ k, (blk x.av = some k ∨ blk x.kv = some k) → (w1.setCell ⟨w.heap.size, 0, none⟩ (.slice (some ⟨g', 0, none⟩) (rs.length + 1) cap')).heap[k]? = W.heap[k]? := fun k e => by
      obtain ⟨h1, h2, h3⟩ := hL.held k e
      rw [b2 k (by omega), b1 k h2 h3]
    refine ⟨?_, ?_, fun k e => ?_⟩
    · obtain ⟨a, cp, e, ha, hl⟩ := hL.attrs
      exact ⟨a, cp, e, ha.mod (fun b off eb => hk b (.inl (by rw [e, eb]; rfl))), hl⟩
    · obtain ⟨a, cp, e, ha, hl⟩ := hL.kids
      exact ⟨a, cp, e, ha.mod (fun b off eb => hk b (.inr (by rw [e, eb]; rfl))), hl⟩
    · obtain ⟨h1, h2, h3⟩ := hL.held k e
      refine ⟨h1, by omega, fun e2 => ?_⟩
      have e3 : g' = k := by simpa [Value.ownBlock] using e2
      subst e3
      rcases hat with e4 | e4
      · exact h3 e4
      · omega
  refine ⟨?_, ?_, fun i x hx => (all i x hx).attrs, fun i x hx => (all i x hx).kids, fun i x hx => (all i x hx).held, ?_⟩
  · exact one_setCell hR1
  · rw [List.length_append]
    have : oneRow (rs ++ [r]) = oneRow rs ++ r.cells := by simp [oneRow]
    rw [this]
    exact ownsRow_setCell_other hown (by simp [Value.ownBlock]; exact hgR) _
  · refine h.below.trans ⟨?_, ?_, ?_, hsz, fun k hk => ?_⟩
    · exact (Mod.setCell (F := fun _ => True) w1 ⟨w.heap.size, 0, none⟩ _ trivial).os.trans (Mod.grown (F := fun _ => True) hgrow (by simp)).os
    · exact (Mod.setCell (F := fun _ => True) w1 ⟨w.heap.size, 0, none⟩ _ trivial).tape.trans (Mod.grown (F := fun _ => True) hgrow (by simp)).tape
    · exact (Mod.setCell (F := fun _ => True) w1 ⟨w.heap.size, 0, none⟩ _ trivial).output.trans (Mod.grown (F := fun _ => True) hgrow (by simp)).output
    · rw [b2 k (by omega), b1 k (by omega) (fun e => ?_)]
      rcases h.own.2 with ⟨h', _⟩ | ⟨g1, cap1, cur, h', hb, _⟩
      · rw [h'] at e; simp [Value.ownBlock] at e
      · rw [h'] at e
        have e3 : g1 = k := by simpa [Value.ownBlock] using e
        have : w.heap.size ≤ g1 := by first | exact hb | exact hb.1
        omega

theorem cp_down {w : World} {B B' e s n : Nat} {v : Value} {cs : List Value} (h : w.ownsRow B e s v n cs) (hb : B' ≤ B) : w.ownsRow B' e s v n cs := by
  obtain ⟨h1, h2⟩ := h
  refine ⟨h1, ?_⟩
  rcases h2 with h2 | ⟨g, cap, cur, e1, hg, rest⟩
  · exact .inl h2
  · exact .inr ⟨g, cap, cur, e1, Nat.le_trans hb hg, rest⟩

/-- A copy that is whole is an arena. -/
theorem CpS.rf {w wx : World} {v : Value} {rs : List OneR} {base : Nat} (h : CpS w wx v rs) (hbase : base ≤ w.heap.size) (h0 : 0 < rs.length) (hn : rs.length ≤ 32768) :
    ∃ g cap, Rf wx base w.heap.size g cap rs ∧ ∀ k, footR w.heap.size g rs k → w.heap.size ≤ k := by
  rcases h.own.2 with ⟨h', h2⟩ | ⟨g, cap, cur, h', hb, rest⟩
  · exfalso
    first | omega | (obtain ⟨_, h3⟩ := h2; omega) | (simp at h2; omega)
  · have hg : w.heap.size ≤ g := by first | exact hb | exact hb.1
    have hown := h.own
    have hcell := h.cell
    have hheld := h.held
    rw [h'] at hown hcell hheld
    refine ⟨g, cap, ⟨hcell, cp_down hown hbase, hbase, h0, hn, h.attrs, h.kids, fun i r hi k e => ?_⟩, fun k hk => ?_⟩
    · obtain ⟨h1, h2, h3⟩ := hheld i r hi k e
      refine ⟨by omega, h2, by omega, fun e2 => h3 ?_⟩
      subst e2
      rfl
    · rcases hk with rfl | rfl | ⟨r, hr, e⟩
      · exact Nat.le_refl _
      · exact hg
      · obtain ⟨i, hi⟩ := List.mem_iff_getElem?.1 hr
        have := (hheld i r hi k e).1
        omega

abbrev box10 (r : OneR) (av kv : Value) : Obj := .cells #[.int .i64 r.o.kind, .int .i64 r.o.space, .string r.o.name, av, .string r.o.data, .string r.o.system, .int .i64 r.o.inner, .int .i64 r.o.host, .int .i64 r.o.up, kv] 76
theorem box10_cells {W : World} {b : Nat} {r : OneR} {av kv : Value} (h : W.heap[b]? = some (box10 r av kv)) :
    W.cell? ⟨b, 0, none⟩ = some (.int .i64 r.o.kind) ∧ W.cell? ⟨b, 1, none⟩ = some (.int .i64 r.o.space) ∧ W.cell? ⟨b, 2, none⟩ = some (.string r.o.name) ∧ W.cell? ⟨b, 3, none⟩ = some av ∧ W.cell? ⟨b, 4, none⟩ = some (.string r.o.data) ∧ W.cell? ⟨b, 5, none⟩ = some (.string r.o.system) ∧
    W.cell? ⟨b, 6, none⟩ = some (.int .i64 r.o.inner) ∧ W.cell? ⟨b, 7, none⟩ = some (.int .i64 r.o.host) ∧ W.cell? ⟨b, 8, none⟩ = some (.int .i64 r.o.up) ∧ W.cell? ⟨b, 9, none⟩ = some kv ∧ ∀ j, W.frozen? ⟨b, j, none⟩ = false := by
  refine ⟨?_, ?_, ?_, ?_, ?_, ?_, ?_, ?_, ?_, ?_, fun j => by simp [World.frozen?, h]⟩ <;> simp [World.cell?, h]
theorem cp_rowSet {W : World} {b i : Nat} {arr : Array Value} {t : TypeId} {fr : Nat × Nat} (h : W.heap[b]? = some (.cells arr t fr)) (v : Value) : (W.setCell ⟨b, i, none⟩ v).heap[b]? = some (.cells (arr.setIfInBounds i v) t fr) := by
  simp [World.setCell, Array.getElem?_modify, h]
/-- A list, whatever its length, appended to an empty one. -/
theorem cp_append {P : Program} {w : World} {ops : Array Oper} {rest : List Oper} {o : Oper} {a : Act} {Q : Exit → Act → World → Prop} (hgd : o.guard = none) (s x : Operand) (t : TypeId)
    (ho : o.op = .call { callee := .builtin .append, args := #[s, x], argTypes := #[t, t] })
    (e : TypeId) (i : TypeInfo) (z : Value) (size bytes : Nat) (ht : P.underlying t = some (.slice e)) (hi : P.info? e = some i) (hz : i.zero = some z)
    (hsize : i.size = size) (hby : i.bytes = bytes) (hzs : z.cells.size = size) (hsz : 0 < size)
    (k : Nat) (hs : a.eval s = .slice (some ⟨k, 0, none⟩) 0 0) (hk : w.heap[k]? = some (.cells #[] e (0, 0)))
    (src : Option Addr) (m c : Nat) (news : List Value) (hx : a.eval x = .slice src m c) (hl : news.length = m * size) (hnews : ∀ b off, src = some ⟨b, off, none⟩ → ∀ j u, news[j]? = some u → w.cell? ((⟨b, off, none⟩ : Addr).add j) = some u)
    (hsrc : 0 < m → ∃ b off, src = some ⟨b, off, none⟩) (h1 : ∀ u ∈ news, u.oneCell' = true) (h63 : m ≤ maxLen) (hbytes : m * bytes ≤ 140737488355328)
    (h : ∀ g cap w', w'.ownsRow k e size (.slice (some ⟨g, 0, none⟩) m cap) m news → w.grownBy w' (some k) → (g = k ∨ g = w.heap.size) → g < w'.heap.size → wpList P ops Q rest (a.put o.dst (.slice (some ⟨g, 0, none⟩) m cap)) w') : wpList P ops Q (o :: rest) a w := by
  have hklt := lt_of_block hk
  have hown : w.ownsRow k e size (.slice (some ⟨k, 0, none⟩) 0 0) 0 [] := ⟨by simp, .inr ⟨k, 0, #[], rfl, Nat.le_refl _, hk, Nat.le_refl _, by simp [maxLen], by simp, by simp⟩⟩
  by_cases hm : 0 < m
  · obtain ⟨b, off, rfl⟩ := hsrc hm
    refine wpList_append_lies w hgd s x t ho k e i z size bytes ht hi hz hsize hby hzs hsz _ 0 [] hs hown ⟨b, off, none⟩ m c news hx hl (hnews b off rfl) h1 hm (by omega) (by simpa using hbytes) (Nat.le_of_lt hklt) _ rfl ?_
    intro g cap w' h2 h3 h4 h5
    simp only [Nat.zero_add, List.nil_append] at h2 ⊢
    refine h g cap w' h2 h3 (h4.imp (fun e => ?_) id) h5
    simp [Value.ownBlock] at e
    exact e.symm
  · obtain rfl : m = 0 := by omega
    obtain rfl : news = [] := List.eq_nil_of_length_eq_zero (by omega)
    have hS : Src P i.size t (.slice src 0 c) 0 [] w := by
      cases src with
      | none => exact Src.ofNil w ht c
      | some ad => exact Src.ofSlice w ht ad 0 c [] (by simp) (fun j u hu => by simp at hu) (by simp)
    have hr := run_append_nothing (P := P) w t t o.type e i ht hi (some ⟨k, 0, none⟩) 0 0 (Nat.le_refl _) (.slice src 0 c) hS
    refine wpList_plain hgd fun K hK => ?_
    unfold Oper.wp execOp
    simp only [ho, resolve, invoke, builtin, Sem.run_bind, Sem.run_pure, Result.andThen_ok, List.map_toArray, List.map_cons, List.map_nil, hs, hx, hr]
    exact hK _ _ (h k 0 w hown ⟨rfl, rfl, rfl, Nat.le_refl _, fun _ _ _ => rfl⟩ (.inl rfl) hklt)

theorem cp_cap {w : World} {B e s n g cap : Nat} {cs : List Value} (h : w.ownsRow B e s (.slice (some ⟨g, 0, none⟩) n cap) n cs) : n ≤ cap := by
  rcases h.2 with ⟨h', _⟩ | ⟨g1, cap1, cur, h', _, _, hle, _⟩
  · simp at h'
  · simp at h'
    obtain ⟨_, rfl⟩ := h'
    exact hle

theorem cp_last (X : World) (k : Nat) (e : TypeId) (hk : X.heap.size = k) : (X.alloc (.cells #[] e)).heap[k]? = some (.cells #[] e (0, 0)) := by subst hk; exact heap_alloc_new X _
theorem cp_size (X : World) (p : Addr) (v : Value) : (X.setCell p v).heap.size = X.heap.size := by simp
theorem cp_one {wr w1 : World} {o : Obj} {e : TypeId} (hg : ((wr.alloc o).alloc (.cells #[] e)).grownBy w1 (some (wr.heap.size + 1))) : w1.heap[wr.heap.size]? = some o ∧ Below wr.heap.size wr w1 ∧ wr.heap.size + 2 ≤ w1.heap.size := by
  have hs := hg.size
  simp only [World.size_alloc] at hs
  refine ⟨(hg.block wr.heap.size (by simp only [World.size_alloc]; omega) (by simp)).trans ((Below.heap_alloc _ _ _ (by simp)).trans (heap_alloc_new wr _)), (((Below.refl _ wr).alloc (Nat.le_refl _) _).alloc (by simp) _).grown hg (by simp only [World.size_alloc]; omega) (fun k hk => ?_), hs⟩
  have : wr.heap.size + 1 = k := Option.some.inj hk
  omega
theorem cp_at1 {wr : World} {o : Obj} {e : TypeId} {g : Nat} (h : g = wr.heap.size + 1 ∨ g = ((wr.alloc o).alloc (.cells #[] e)).heap.size) : wr.heap.size < g ∧ g ≤ wr.heap.size + 2 := by
  simp only [World.size_alloc] at h
  omega
theorem cp_at2 {w1 : World} {p : Addr} {v : Value} {e : TypeId} {g : Nat} (h : g = w1.heap.size ∨ g = ((w1.setCell p v).alloc (.cells #[] e)).heap.size) : w1.heap.size ≤ g := by
  simp only [World.size_alloc, cp_size] at h
  omega
theorem cp_below {wr w1 : World} {i : Nat} (h : Below wr.heap.size wr w1) (v : Value) (o : Obj) : Below wr.heap.size wr ((w1.setCell ⟨wr.heap.size, i, none⟩ v).alloc o) :=
  (h.setCell (Nat.le_refl _) v).alloc (by rw [cp_size]; exact h.size) o
theorem cp_two {wr w1 w2 : World} {r : OneR} {av kv kv' : Value} {e : TypeId} (hbx : w1.heap[wr.heap.size]? = some (box10 r av kv)) (hB : Below wr.heap.size wr w1) (hg : ((w1.setCell ⟨wr.heap.size, 9, none⟩ kv').alloc (.cells #[] e)).grownBy w2 (some w1.heap.size)) :
    w2.heap[wr.heap.size]? = some (box10 r av kv') ∧ Below wr.heap.size wr w2 ∧ w1.heap.size + 1 ≤ w2.heap.size ∧ ∀ k, k ≠ wr.heap.size → k < w1.heap.size → w2.heap[k]? = w1.heap[k]? := by
  have hs := hg.size
  have hl := lt_of_block hbx
  simp only [World.size_alloc, cp_size] at hs
  have hb : ∀ k, k < w1.heap.size → w2.heap[k]? = (w1.setCell ⟨wr.heap.size, 9, none⟩ kv').heap[k]? := fun k hk =>
    (hg.block k (by simp only [World.size_alloc, cp_size]; omega) (by simp; omega)).trans (Below.heap_alloc _ _ _ (by rw [cp_size]; exact hk))
  refine ⟨(hb _ hl).trans (cp_rowSet hbx _), (cp_below hB kv' _).grown hg (by simp only [World.size_alloc, cp_size]; omega) (fun k hk => ?_), hs, fun k h1 h2 => (hb k h2).trans (Below.heap_setCell _ _ _ _ h1)⟩
  have : w1.heap.size = k := Option.some.inj hk
  omega
theorem cp_newsD (X : World) (o : Obj) (B : Nat) (r : OneR) (ho : o = .cells r.cells.toArray 76) (hB : X.heap.size = B) : ∀ j u, r.cells[j]? = some u → (X.alloc o).drew.cell? ((⟨B, 0, none⟩ : Addr).add j) = some u := by
  subst ho
  exact World.news_of_block (w := (X.alloc (.cells r.cells.toArray 76)).drew) (B := B) (t := 76) (fr := (0, 0)) (by subst hB; exact heap_alloc_new X _)
theorem cp_drew (X : World) : X.drew.heap = X.heap := rfl
theorem cp_rowA {w W : World} {src : Option Addr} {l : List AttrM} (h : AttrsIn w src l) (hb : Below w.heap.size w W) : ∀ b off, src = some ⟨b, off, none⟩ → ∀ j u, (attrRow l)[j]? = some u → W.cell? ((⟨b, off, none⟩ : Addr).add j) = some u := fun b off e => by subst e; exact (h.below hb).row
theorem cp_own {w wr W : World} {v : Value} {j : Nat} {cs : List Value} (h : wr.ownsRow w.heap.size 76 10 v j cs) (hl : ∀ k, v.ownBlock = some k → k < wr.heap.size) (hb : Below wr.heap.size wr W) : W.ownsRow w.heap.size 76 10 v j cs := ownsRow_kept h (fun k e => hb.block k (hl k e))

/-- Behind a round of the copy. -/
theorem cp_round {w wr W2 w3 : World} {v : Value} {rs rs' : List OneR} {j : Nat} {r : OneR} {g4 c4 gk ck ga ca : Nat} (hC : CpS w wr v rs') (he : osOf rs' = (osOf rs).take j) (hr : rs[j]? = some r) (hl : rs'.length = j)
    (hb : Below wr.heap.size wr W2) (hk : IntsIn W2 (some ⟨gk, 0, none⟩) r.o.kids) (hkl : r.o.kids.length ≤ 32768) (hgk : wr.heap.size ≤ gk ∧ gk < W2.heap.size) (ha : AttrsIn W2 (some ⟨ga, 0, none⟩) r.o.attrs) (hal : r.o.attrs.length ≤ 1024) (hac : r.o.attrs.length ≤ ca) (hga : wr.heap.size ≤ ga ∧ ga < W2.heap.size)
    (hown : w3.ownsRow w.heap.size 76 10 (.slice (some ⟨g4, 0, none⟩) (j + 1) c4) (j + 1) (oneRow rs' ++ OneR.cells ⟨r.o, .slice (some ⟨ga, 0, none⟩) r.o.attrs.length ca, .slice (some ⟨gk, 0, none⟩) r.o.kids.length ck⟩)) (hgrow : W2.grownBy w3 v.ownBlock) (hat : v.ownBlock = some g4 ∨ W2.heap.size ≤ g4) :
    ∃ v' rs'', CpS w (w3.setCell ⟨w.heap.size, 0, none⟩ (.slice (some ⟨g4, 0, none⟩) (j + 1) c4)) v' rs'' ∧ osOf rs'' = (osOf rs).take (j + 1) := by
  subst hl
  have hC2 := hC.more hb
  refine ⟨_, _, hC2.grow ⟨r.o, .slice (some ⟨ga, 0, none⟩) r.o.attrs.length ca, .slice (some ⟨gk, 0, none⟩) r.o.kids.length ck⟩ ⟨⟨_, _, rfl, ha, hal, hac⟩, ⟨_, _, rfl, hk, hkl⟩, fun k e => ?_⟩ hown hgrow hat, ?_⟩
  · have hlt := lt_of_block hC.cell
    have hne : ∀ k, wr.heap.size ≤ k → v.ownBlock ≠ some k := fun k hk e => by have := hC.ownLt e; omega
    rcases e with e | e
    · have : ga = k := by simpa [blk] using e
      subst this
      exact ⟨by omega, hga.2, hne _ hga.1⟩
    · have : gk = k := by simpa [blk] using e
      subst this
      exact ⟨by omega, hgk.2, hne _ hgk.1⟩
  · have hget := osOf_get hr
    have hlt := (List.getElem?_eq_some_iff.1 hget).1
    rw [List.take_succ_eq_append_getElem hlt, ← he]
    have : (osOf rs)[rs'.length] = r.o := (List.getElem?_eq_some_iff.1 hget).2
    rw [this]
    simp [osOf]
theorem cp_new (w : World) : CpS w (w.alloc (.cells #[.slice none 0 0] 79)) (.slice none 0 0) [] :=
  ⟨heap_alloc_new w _, World.ownsRow_nil _ _ _ _, fun i r hi => by simp at hi, fun i r hi => by simp at hi, fun i r hi => by simp at hi, (Below.refl _ w).alloc (Nat.le_refl _) _⟩

set_option maxRecDepth 100000 in
set_option maxHeartbeats 8000000 in
theorem refCopy_in {w : World} {base bR g cap : Nat} {rs : List OneR} (h : Rf w base bR g cap rs) :
    Calls Try.prog 23 #[.pointer (some ⟨bR, 0, none⟩)] w fun e w' => ∃ v rs', e = .returned (.pointer (some ⟨w.heap.size, 0, none⟩)) ∧ CpS w w' v rs' ∧ osOf rs' = osOf rs := by
  have hA := h.cR
  have hlR := h.lt.1
  have hn := h.most
  have HH := hide h
  obtain ⟨i0, hi0, hz0, hz1, hz2⟩ := info_parts Try.info3
  obtain ⟨i1, hi1, hy0, hy1, hy2⟩ := info_parts Try.info29
  obtain ⟨i2, hi2, hx0, hx1, hx2⟩ := info_parts Try.info76
  clear h
  go_enter Try.func23, Try.ntmps23
  go_wp2
  go_loopg [4] rs.length (fun k s4 wx => ∃ (j : Nat) (v : Value) (rs' : List OneR), s4 = .int .i64 j ∧ j + k = rs.length ∧ CpS w wx v rs' ∧ osOf rs' = (osOf rs).take j)
  case atStart => exact ⟨0, _, [], rfl, by omega, cp_new w, rfl⟩
  case round =>
    obtain ⟨j, v, rs', rfl, hjk, hC, he⟩ := hrel
    obtain ⟨gk0, hgk0⟩ : ∃ x, x = gk := ⟨_, rfl⟩
    have HGK : Hid (j + gk0 = rs.length ∧ gk0 = gk) := hide ⟨by omega, hgk0⟩
    clear hgk0
    have hA' := (hC.below.cell (p := ⟨bR, 0, none⟩) hlR).trans hA
    have HC := hide hC
    by_cases hj : j < rs.length
    · have hjz : (j : Int) < (rs.length : Int) := by omega
      obtain ⟨r, hr⟩ : ∃ r, rs[j]? = some r := ⟨_, List.getElem?_eq_getElem hj⟩
      have hl' : rs'.length = j := by
        have := congrArg List.length he
        rw [osOf_len, List.length_take, osOf_len] at this
        omega
      obtain ⟨c0, c1, c2, c3, c4, c5, c6, c7, c8, c9⟩ := ((unhide HH).below hC.below).cells10 hr
      obtain ⟨aa, ac, eav, hain, hal, hac⟩ := ((unhide HH).below hC.below).attrs j r hr
      obtain ⟨ka, kc, ekv, hkin, hkl⟩ := ((unhide HH).below hC.below).kids j r hr
      rw [eav] at c3
      rw [ekv] at c9
      have hlw := lt_of_block hC.cell
      have HOWN := hide (hl' ▸ hC.own)
      have HCELL := hide hC.cell
      have HNE := hide hC.ownNe
      have HOL := hide (fun k e => hC.ownLt (k := k) e)
      have HR := hide hr
      have HE := hide he
      have HL' := hide hl'
      have HKIN := hide hkin
      have HAIN := hide hain
      have HBW := hide hC.below
      clear hC he hr hl' hkin hain eav ekv
      have HKB := hide (cp_last (wr.alloc (box10 r (.slice aa r.o.attrs.length ac) (.slice ka r.o.kids.length kc))) (wr.heap.size + 1) 3 (by simp))
      have HNK : Hid (∀ b off, ka = some ⟨b, off, none⟩ → ∀ j u, (intsV r.o.kids)[j]? = some u → ((wr.alloc (box10 r (.slice aa r.o.attrs.length ac) (.slice ka r.o.kids.length kc))).alloc (.cells #[] 3)).cell? ((⟨b, off, none⟩ : Addr).add j) = some u) := hide (fun b off e => by subst e; exact ((unhide HKIN).below (((Below.refl _ wr).alloc (Nat.le_refl _) _).alloc (by simp) _)).row)
      have HSK : Hid (0 < r.o.kids.length → ∃ b off, ka = some ⟨b, off, none⟩) := hide (fun h0 => (unhide HKIN).at h0)
      have HSA : Hid (0 < r.o.attrs.length → ∃ b off, aa = some ⟨b, off, none⟩) := hide (fun h0 => by obtain ⟨b, off, e, _⟩ := (unhide HAIN).cells 0 _ (List.getElem?_eq_getElem h0); exact ⟨b, off, e⟩)
      have hnew : ¬ w.heap.size = wr.heap.size := by omega
      go_wp2_with (first
        | (have _x := unhide HBX1; at_builtin; go_must (refine cp_append (by rfl) _ _ 30 (by rfl) 29 i1 _ 4 56 Try.underlying30 hi1 hy0 hy1 hy2 rfl (by omega) w1.heap.size (by rfl) (by exact cp_last _ w1.heap.size 29 (by simp)) aa r.o.attrs.length ac (attrRow r.o.attrs) (by rfl) (flat_len AttrM.cells 4 attr_len r.o.attrs) (by exact cp_rowA (unhide HAIN) (cp_below (unhide HB1) _ _)) (unhide HSA) (attrs_oneCell r.o.attrs) (by unfold maxLen; omega) (by omega) ?_); intro ga ca w2 hown2 hgrow2 hat2 hlt2; obtain ⟨hbx2, hB2, hs2, hK2⟩ := cp_two (unhide HBX1) (unhide HB1) hgrow2; have hlb2 : wr.heap.size < w2.heap.size := Nat.lt_of_lt_of_le hlb1 (Nat.le_of_succ_le hs2); have hat2' := cp_at2 hat2; have hR2 : w2.heap[w.heap.size]? = some (.cells #[v] 79 (0, 0)) := (hB2.block _ hlw).trans (unhide HCELL); have r2 := cell_of_one hR2; have f2 := free_of_one hR2; obtain ⟨p0, p1, p2, p3, p4, p5, p6, p7, p8, p9, pf⟩ := box10_cells hbx2; have HBX2 := hide hbx2; have HB2 := hide hB2; have HOA := hide hown2; have HAT2 := hide hat2'; have HK2 := hide hK2; have HLT2 := hide hlt2; have HS2 := hide hs2; clear hbx2 hB2 hown2 hgrow2 hat2 hat2' hK2 hR2 hs2 hlt2)
        | (at_builtin; go_must (refine cp_append (by rfl) _ _ 41 (by rfl) 3 i0 _ 1 8 Try.underlying41 hi0 hz0 hz1 hz2 rfl (by omega) (wr.heap.size + 1) (by rfl) (by exact (unhide HKB)) ka r.o.kids.length kc (intsV r.o.kids) (by rfl) (by simp [intsV]) (unhide HNK) (unhide HSK) (ints_oneCell r.o.kids) (by unfold maxLen; omega) (by omega) ?_); intro gk ck w1 hown1 hgrow1 hat1 hlt1; obtain ⟨hbx1, hB1, hs1⟩ := cp_one hgrow1; have hlb1 : wr.heap.size < w1.heap.size := Nat.lt_of_lt_of_le (Nat.lt_of_succ_lt (Nat.lt_succ_self _)) hs1; have hat1' := cp_at1 hat1; obtain ⟨d0, d1, d2, d3, d4, d5, d6, d7, d8, d9, df⟩ := box10_cells hbx1; have HBX1 := hide hbx1; have HB1 := hide hB1; have HOK := hide hown1; have HAT1 := hide hat1'; have HS1 := hide hs1; have HLT1 := hide hlt1; clear hbx1 hB1 hown1 hgrow1 hat1 hat1' hs1 hlt1))
      have hlb3 : w.heap.size < w2.heap.size := Nat.lt_trans hlw hlb2
      have hlb4 : ¬ w.heap.size = w2.heap.size := by omega
      have HQ1 := hide (cp_own (unhide HOWN) (unhide HOL) (cp_below (i := 3) (unhide HB2) (.slice (some ⟨ga, 0, none⟩) r.o.attrs.length ca) (box10 r (.slice (some ⟨ga, 0, none⟩) r.o.attrs.length ca) (.slice (some ⟨gk, 0, none⟩) r.o.kids.length ck))).drew)
      have HQ2 := hide (cp_newsD (w2.setCell ⟨wr.heap.size, 3, none⟩ (.slice (some ⟨ga, 0, none⟩) r.o.attrs.length ca)) (box10 r (.slice (some ⟨ga, 0, none⟩) r.o.attrs.length ca) (.slice (some ⟨gk, 0, none⟩) r.o.kids.length ck)) w2.heap.size ⟨r.o, (.slice (some ⟨ga, 0, none⟩) r.o.attrs.length ca), (.slice (some ⟨gk, 0, none⟩) r.o.kids.length ck)⟩ rfl (by simp))
      have HQ3 := hide (Nat.le_of_lt (Nat.lt_of_lt_of_le hlw (cp_below (i := 3) (unhide HB2) (.slice (some ⟨ga, 0, none⟩) r.o.attrs.length ca) (box10 r (.slice (some ⟨ga, 0, none⟩) r.o.attrs.length ca) (.slice (some ⟨gk, 0, none⟩) r.o.kids.length ck))).drew.size))
      go_region_law ((refine step_append_lies _ (by rfl) _ _ _ (by rfl) w.heap.size 76 i2 _ 10 136 Try.underlying77 hi2 hx0 hx1 hx2 rfl (by omega) v j (oneRow rs') (by rfl) (unhide HQ1) ⟨w2.heap.size, 0, none⟩ 1 1 (OneR.cells ⟨r.o, (.slice (some ⟨ga, 0, none⟩) r.o.attrs.length ca), (.slice (some ⟨gk, 0, none⟩) r.o.kids.length ck)⟩) (by rfl) (by rfl) (unhide HQ2) (by simp [OneR.cells, Value.oneCell']) (by omega) (by unfold maxLen; omega) (by omega) (unhide HQ3) (w2.heap.size + 1) (by simp) ?_); (intro g4 c4 w3 hown3 hgrow3 hat3 hlt3; have hB3 := (cp_below (i := 3) (unhide HB2) (.slice (some ⟨ga, 0, none⟩) r.o.attrs.length ca) (box10 r (.slice (some ⟨ga, 0, none⟩) r.o.attrs.length ca) (.slice (some ⟨gk, 0, none⟩) r.o.kids.length ck))).drew; have hR3 : w3.heap[w.heap.size]? = some (.cells #[v] 79 (0, 0)) := (hgrow3.block _ (Nat.lt_of_lt_of_le hlw hB3.size) (fun e => (unhide HNE) e.symm)).trans ((hB3.block _ hlw).trans (unhide HCELL)); have r3 := cell_of_one hR3; have f3 := free_of_one hR3; have HB3 := hide hB3; have HOR := hide hown3; have HG3 := hide hgrow3; have HAT3 := hide hat3; clear hB3 hR3 hown3 hgrow3 hat3))
      all_goals go_wp2
      all_goals
       go_roundg (gk0 - 1)
       case measure => have := unhide HGK; omega
       case rel =>
         have hs1 := unhide HS1
         have hs2 := unhide HS2
         have hat1 := unhide HAT1
         have hat2 := unhide HAT2
         have hlt1 := unhide HLT1
         have hlt2 := unhide HLT2
         have hk3 : IntsIn ((w2.setCell ⟨wr.heap.size, 3, none⟩ (.slice (some ⟨ga, 0, none⟩) r.o.attrs.length ca)).alloc (box10 r (.slice (some ⟨ga, 0, none⟩) r.o.attrs.length ca) (.slice (some ⟨gk, 0, none⟩) r.o.kids.length ck))).drew (some ⟨gk, 0, none⟩) r.o.kids := by
           obtain ⟨a', c', e', hin, _⟩ := ownsRow_ints (unhide HOK)
           simp at e'
           obtain ⟨rfl, _⟩ := e'
           refine hin.mod fun b off e => ?_
           simp at e
           obtain ⟨rfl, _⟩ := e
           rw [cp_drew, Below.heap_alloc _ _ _ (by rw [cp_size]; omega), Below.heap_setCell _ _ _ _ (by simp; omega)]
           exact (unhide HK2) _ (by omega) hlt1
         have ha3 : AttrsIn ((w2.setCell ⟨wr.heap.size, 3, none⟩ (.slice (some ⟨ga, 0, none⟩) r.o.attrs.length ca)).alloc (box10 r (.slice (some ⟨ga, 0, none⟩) r.o.attrs.length ca) (.slice (some ⟨gk, 0, none⟩) r.o.kids.length ck))).drew (some ⟨ga, 0, none⟩) r.o.attrs := by
           obtain ⟨a', c', e', hin⟩ := ownsRow_attrs (unhide HOA)
           simp at e'
           obtain ⟨rfl, _⟩ := e'
           refine hin.mod fun b off e => ?_
           simp at e
           obtain ⟨rfl, _⟩ := e
           rw [cp_drew, Below.heap_alloc _ _ _ (by rw [cp_size]; omega), Below.heap_setCell _ _ _ _ (by simp; omega)]
         obtain ⟨v', rs'', hc', he'⟩ := cp_round (unhide HC) (unhide HE) (unhide HR) (unhide HL') (unhide HB3) hk3 hkl (by rw [cp_drew, World.size_alloc, cp_size]; omega) ha3 hal (cp_cap (unhide HOA)) (by rw [cp_drew, World.size_alloc, cp_size]; omega) (unhide HOR) (unhide HG3) ((unhide HAT3).imp id (fun e => by rw [e, cp_drew, World.size_alloc, cp_size]; omega))
         exact ⟨j + 1, v', rs'', by go_num, by have := unhide HGK; omega, hc', he'⟩
    · have hjz : ¬ (j : Int) < (rs.length : Int) := by omega
      obtain rfl : j = rs.length := by omega
      clear hC
      go_wp2
      go_ret
      exact ⟨rfl, v, rs', unhide HC, by rw [he, ← osOf_len, List.take_length]⟩
end Go.Proofs.Ytlbkoafeedlfaaa

namespace Go.Proofs.Ytlbkoafeedlfaaa
open Go.RowKit

theorem AvOnly.map {ns ns' : List NodeM} (h : AvOnly ns ns') (f : NodeM → Int) (hf : ∀ n v, f { n with av := v } = f n) (i : Nat) : (ns'[i]?).map f = (ns[i]?).map f := by
  by_cases hi : i < ns'.length
  · obtain ⟨n, hn, e⟩ := h.2 i _ (List.getElem?_eq_getElem hi)
    rw [List.getElem?_eq_getElem hi, hn]
    simp only [Option.map_some]
    rw [e, hf]
  · rw [List.getElem?_eq_none (by omega), List.getElem?_eq_none (by have := h.1; omega)]

theorem Sim.avOnly {ns ns' : List NodeM} {os : List OneM} (s : Sim ns os) (h : AvOnly ns ns') : Sim ns' os := by
  refine ⟨by rw [h.1]; exact s.len, fun i n' o hn ho => ?_, fun i o ho => (s.kids i o ho).keep h.1 (fun k _ => ?_), s.down, s.up, s.alone, fun i n' hn hp => ?_, s.inner, s.host, s.ends⟩
  · obtain ⟨n, hn', e⟩ := h.2 i n' hn
    have := s.same i n o hn' ho
    rw [e]
    exact ⟨this.kind, this.space, this.name, this.data, this.system, this.inner, this.attrs, this.up⟩
  · unfold fwd bwd fld
    rw [h.map (·.first) (fun _ _ => rfl), h.map (·.next) (fun _ _ => rfl), h.map (·.last) (fun _ _ => rfl), h.map (·.prev) (fun _ _ => rfl)]
    exact ⟨rfl, rfl⟩
  · obtain ⟨n, hn', e⟩ := h.2 i n' hn
    rw [e] at hp ⊢
    exact s.loose i n hn' hp

theorem copyA_any {w0 w : World} {bA bR : Nat} {os : List OneM} (h : Both w0 w bA bR os) :
    Calls Try.prog 22 #[.pointer (some ⟨bA, 0, none⟩)] w fun e w1 => ∃ bA' ns' F', e = .returned (.pointer (some ⟨bA', 0, none⟩)) ∧ ArS w1 w.heap.size bA' ns' F' ∧ Sim ns' os ∧ Below w.heap.size w w1 ∧ ∀ k, F' k → w.heap.size ≤ k := by
  obtain ⟨ns, F, G, hp⟩ := h
  obtain ⟨bS, g, cap, hA, _⟩ := hp.ar
  refine (copy_any hA).mono ?_
  rintro e w1 ⟨bA', bS', g', cap', ns', rfl, hA', hav, hb, _⟩
  exact ⟨bA', ns', foot bA' bS' g' ns', rfl, ⟨bS', g', cap', hA', fun k => Iff.rfl⟩, hp.sim.avOnly hav, hb, fun k hk => (hA'.foot_lt hk).1⟩

theorem copyR_any {w0 w w1 : World} {bA bR bA' : Nat} {os : List OneM} {ns' : List NodeM} {F' : Nat → Prop} (h : Both w0 w1 bA bR os) (ha : ArS w1 w.heap.size bA' ns' F') (hs : Sim ns' os) (hb : Below w.heap.size w w1) (hF : ∀ k, F' k → w.heap.size ≤ k) :
    Calls Try.prog 23 #[.pointer (some ⟨bR, 0, none⟩)] w1 fun e w2 => ∃ bR', e = .returned (.pointer (some ⟨bR', 0, none⟩)) ∧ Both w w2 bA' bR' os ∧ Below w1.heap.size w1 w2 := by
  obtain ⟨ns, F, G, hp⟩ := h
  obtain ⟨g, cap, rs, hR, ho, _⟩ := hp.rf
  refine (refCopy_in hR).mono fun e w2 ⟨v, rs', h1, hC, he⟩ => ⟨w1.heap.size, h1, ?_, hC.below⟩
  have hl : rs'.length = rs.length := by
    have := congrArg List.length he
    rwa [osOf_len, osOf_len] at this
  obtain ⟨g', cap', hR', hf⟩ := hC.rf (base := w.heap.size) hb.size (by rw [hl]; exact hR.pos) (by rw [hl]; exact hR.most)
  refine ⟨ns', F', footR w1.heap.size g' rs', ha.below hC.below, hs, ⟨g', cap', rs', hR', by rw [he, ho], fun k => Iff.rfl⟩, hb.trans (hC.below.mono hb.size), hF, fun k hk => Nat.le_trans hb.size (hf k hk), fun k hk hg => ?_⟩
  have := (ha.lt hk).2
  have := hf k hg
  omega
end Go.Proofs.Ytlbkoafeedlfaaa

namespace Go.Proofs.Ytlbkoafeedlfaaa
open Go.RowKit

theorem copies_end {w wc wr w8 w9 : World} (h0 : Below w.heap.size w wc) (h1 : Below wc.heap.size wc wr) (h2 : Below wr.heap.size wr w8) (h3 : Below w8.heap.size w8 w9) : Below w.heap.size w w9 :=
  h0.trans ((h1.trans ((h2.trans (h3.mono h2.size)).mono h1.size)).mono h0.size)

set_option maxRecDepth 100000 in
set_option maxHeartbeats 8000000 in
theorem copies_walk (SA0 : ∀ (w0 w : World) (bA bR : Nat) (os : List OneM), Both w0 w bA bR os → Calls Try.prog 16 #[.pointer (some ⟨bA, 0, none⟩), .pointer (some ⟨bR, 0, none⟩)] w fun e w' => e = .returned (.bool true) ∧ Below w.heap.size w w')
    {w : World} (a0 a1 : Option Addr) (cap0 cap1 : Nat) (l m : List OpM) (hs : ScriptIn w a0 l) (hs1 : ScriptIn w a1 m) :
    Calls Try.prog 5 #[.slice a0 l.length cap0, .slice a1 m.length cap1] w fun e w' => e = .returned (.bool true) ∧ Below w.heap.size w w' := by
  have HN := hide (new_any w w.heap.size (Nat.le_refl _))
  have SA := hide SA0
  have HS := hide hs
  have HS1 := hide hs1

  clear hs hs1 SA0
  go_enter Try.func5, Try.ntmps5
  go_wp2_with (first
    | (go_at_call 13; refine (unhide HN).mono ?_; rintro e w1 ⟨F, rfl, h1, hb1, hF⟩; have HNR := hide (refNew_any w1 w.heap.size hb1.size); have H1 := hide h1; have HB1 := hide hb1; have HF := hide hF; clear h1 hb1 hF)
    | (go_at_call 14; refine (unhide HNR).mono ?_; rintro e w2 ⟨bR, g, cp, rfl, h2, hb2, hR, hg⟩; have HBo := hide (both_new (unhide H1) (unhide HB1) (unhide HF) h2 hb2 hR hg); clear h2 hb2 hR hg))
  generalize w.heap.size + 3 = bA at *
  go_loopg [7] l.length (fun k s wx => ∃ (j : Nat) (os : List OneM), s = .int .i64 j ∧ j + k = l.length ∧ Both w wx bA bR os)
  case atStart => exact ⟨0, _, rfl, by omega, unhide HBo⟩
  case round =>
    obtain ⟨j, os, rfl, hjk, hB⟩ := hrel
    have HB := hide hB
    have HBW := hide (show Below w.heap.size w wr by obtain ⟨ns, F0, G0, hp⟩ := hB; exact hp.below)
    clear hB
    by_cases hj : j < l.length
    · by_cases h2 : (j : Int) < 200
      · have hx : l[j]? = some l[j] := List.getElem?_eq_getElem hj
        generalize l[j] = o at hx
        have hjz : (j : Int) < (l.length : Int) := by omega
        obtain ⟨ha, hr⟩ := (unhide HS).attrs j o hx
        obtain ⟨b, off, rfl, d0, d1, d2, d3, d4, d5, d6, d7, d8, d9, d10, d11⟩ := ((unhide HS).below (unhide HBW)).cells j o hx
        have HPL := hide (play_any (unhide HB) o ha hr)
        unfold OpM.cells at HPL
        clear ha hr hx
        have h3 : decide ((j : Int) < 200) = true := by simpa using h2
        go_wp2_with (first
          | (go_at_call 15; refine (unhide HPL).mono ?_; rintro e w5 ⟨rfl, os5, hB5⟩; have HB5 := hide hB5; clear hB5))
        go_roundg (gk - 1)
        case measure => omega
        case rel => exact ⟨j + 1, os5, by go_num, by omega, unhide HB5⟩
      · have hjz : (j : Int) < (l.length : Int) := by omega
        have h3 : decide ((j : Int) < 200) = false := by simpa using h2
        go_wp2_with (first
          | (go_at_call 22; refine (copyA_any (unhide HB)).mono ?_; rintro e w3 ⟨bA', ns', F', rfl, hA', hS', hb3, hF'⟩; have HCR := hide (copyR_any ((unhide HB).more hb3) hA' hS' hb3 hF'); have HB3 := hide hb3; clear hA' hS' hb3 hF')
          | (go_at_call 23; refine (unhide HCR).mono ?_; rintro e w4 ⟨bR', rfl, hB4, hb4⟩; have HB4 := hide hB4; clear hB4 hb4))
        have HWR := hide (rfl : wr = wr)
        clear HCR HB3 hjk
        obtain ⟨wc, hwc⟩ : ∃ wc, wc = wr := ⟨_, rfl⟩
        rw [← hwc] at HB HBW HB4
        clear hwc HWR
        go_loopg [10] m.length (fun k s wx => ∃ (j : Nat) (os : List OneM), s = .int .i64 j ∧ j + k = m.length ∧ Both wc wx bA' bR' os)
        case atStart => exact ⟨0, _, rfl, by omega, unhide HB4⟩
        case round =>
          obtain ⟨i, os2, rfl, hik, hB2⟩ := hrel
          have HBC := hide hB2
          have HWC := hide (show Below wc.heap.size wc wr by obtain ⟨ns, F0, G0, hp⟩ := hB2; exact hp.below)
          have HBA := hide ((unhide HB).more (unhide HWC))
          clear hB2
          by_cases hi : i < m.length
          · by_cases hi2 : (i : Int) < 200
            · have hx : m[i]? = some m[i] := List.getElem?_eq_getElem hi
              generalize m[i] = o at hx
              have hiz : (i : Int) < (m.length : Int) := by omega
              obtain ⟨ha, hr⟩ := (unhide HS1).attrs i o hx
              have hbw2 : Below w.heap.size w wr := (unhide HBW).trans ((unhide HWC).mono (unhide HBW).size)
              obtain ⟨b, off, rfl, d0, d1, d2, d3, d4, d5, d6, d7, d8, d9, d10, d11⟩ := ((unhide HS1).below hbw2).cells i o hx
              have HPL := hide (play_any (unhide HBC) o (ha.below (unhide HBW)) hr)
              unfold OpM.cells at HPL
              clear ha hr hx hbw2
              have h3 : decide ((i : Int) < 200) = true := by simpa using hi2
              go_wp2_with (first
                | (go_at_call 15; refine (unhide HPL).mono ?_; rintro e w5 ⟨rfl, os5, hB5⟩; have HB5 := hide hB5; clear hB5))
              go_roundg (gk - 1)
              case measure => omega
              case rel => exact ⟨i + 1, os5, by go_num, by omega, unhide HB5⟩
            · have hiz : (i : Int) < (m.length : Int) := by omega
              have h3 : decide ((i : Int) < 200) = false := by simpa using hi2
              go_wp2_with (first
                | (have _x := unhide HE1; go_at_call 16; refine (unhide SA _ _ _ _ _ (unhide HBC2)).mono ?_; rintro e w9 ⟨rfl, hb9⟩; have HE2 := hide hb9; clear hb9)
                | (go_at_call 16; refine (unhide SA _ _ _ _ _ (unhide HBA)).mono ?_; rintro e w8 ⟨rfl, hb8⟩; have HE1 := hide hb8; have HBC2 := hide ((unhide HBC).more hb8); clear hb8))
              go_ret
              exact ⟨rfl, copies_end (unhide HBW) (unhide HWC) (unhide HE1) (unhide HE2)⟩
          · have hiz : ¬ (i : Int) < (m.length : Int) := by omega
            go_wp2_with (first
              | (have _x := unhide HE1; go_at_call 16; refine (unhide SA _ _ _ _ _ (unhide HBC2)).mono ?_; rintro e w9 ⟨rfl, hb9⟩; have HE2 := hide hb9; clear hb9)
              | (go_at_call 16; refine (unhide SA _ _ _ _ _ (unhide HBA)).mono ?_; rintro e w8 ⟨rfl, hb8⟩; have HE1 := hide hb8; have HBC2 := hide ((unhide HBC).more hb8); clear hb8))
            go_ret
            exact ⟨rfl, copies_end (unhide HBW) (unhide HWC) (unhide HE1) (unhide HE2)⟩
    · have hjz : ¬ (j : Int) < (l.length : Int) := by omega
      go_wp2_with (first
        | (go_at_call 22; refine (copyA_any (unhide HB)).mono ?_; rintro e w3 ⟨bA', ns', F', rfl, hA', hS', hb3, hF'⟩; have HCR := hide (copyR_any ((unhide HB).more hb3) hA' hS' hb3 hF'); have HB3 := hide hb3; clear hA' hS' hb3 hF')
        | (go_at_call 23; refine (unhide HCR).mono ?_; rintro e w4 ⟨bR', rfl, hB4, hb4⟩; have HB4 := hide hB4; clear hB4 hb4))
      have HWR := hide (rfl : wr = wr)
      clear HCR HB3 hjk
      obtain ⟨wc, hwc⟩ : ∃ wc, wc = wr := ⟨_, rfl⟩
      rw [← hwc] at HB HBW HB4
      clear hwc HWR
      go_loopg [10] m.length (fun k s wx => ∃ (j : Nat) (os : List OneM), s = .int .i64 j ∧ j + k = m.length ∧ Both wc wx bA' bR' os)
      case atStart => exact ⟨0, _, rfl, by omega, unhide HB4⟩
      case round =>
        obtain ⟨i, os2, rfl, hik, hB2⟩ := hrel
        have HBC := hide hB2
        have HWC := hide (show Below wc.heap.size wc wr by obtain ⟨ns, F0, G0, hp⟩ := hB2; exact hp.below)
        have HBA := hide ((unhide HB).more (unhide HWC))
        clear hB2
        by_cases hi : i < m.length
        · by_cases hi2 : (i : Int) < 200
          · have hx : m[i]? = some m[i] := List.getElem?_eq_getElem hi
            generalize m[i] = o at hx
            have hiz : (i : Int) < (m.length : Int) := by omega
            obtain ⟨ha, hr⟩ := (unhide HS1).attrs i o hx
            have hbw2 : Below w.heap.size w wr := (unhide HBW).trans ((unhide HWC).mono (unhide HBW).size)
            obtain ⟨b, off, rfl, d0, d1, d2, d3, d4, d5, d6, d7, d8, d9, d10, d11⟩ := ((unhide HS1).below hbw2).cells i o hx
            have HPL := hide (play_any (unhide HBC) o (ha.below (unhide HBW)) hr)
            unfold OpM.cells at HPL
            clear ha hr hx hbw2
            have h3 : decide ((i : Int) < 200) = true := by simpa using hi2
            go_wp2_with (first
              | (go_at_call 15; refine (unhide HPL).mono ?_; rintro e w5 ⟨rfl, os5, hB5⟩; have HB5 := hide hB5; clear hB5))
            go_roundg (gk - 1)
            case measure => omega
            case rel => exact ⟨i + 1, os5, by go_num, by omega, unhide HB5⟩
          · have hiz : (i : Int) < (m.length : Int) := by omega
            have h3 : decide ((i : Int) < 200) = false := by simpa using hi2
            go_wp2_with (first
              | (have _x := unhide HE1; go_at_call 16; refine (unhide SA _ _ _ _ _ (unhide HBC2)).mono ?_; rintro e w9 ⟨rfl, hb9⟩; have HE2 := hide hb9; clear hb9)
              | (go_at_call 16; refine (unhide SA _ _ _ _ _ (unhide HBA)).mono ?_; rintro e w8 ⟨rfl, hb8⟩; have HE1 := hide hb8; have HBC2 := hide ((unhide HBC).more hb8); clear hb8))
            go_ret
            exact ⟨rfl, copies_end (unhide HBW) (unhide HWC) (unhide HE1) (unhide HE2)⟩
        · have hiz : ¬ (i : Int) < (m.length : Int) := by omega
          go_wp2_with (first
            | (have _x := unhide HE1; go_at_call 16; refine (unhide SA _ _ _ _ _ (unhide HBC2)).mono ?_; rintro e w9 ⟨rfl, hb9⟩; have HE2 := hide hb9; clear hb9)
            | (go_at_call 16; refine (unhide SA _ _ _ _ _ (unhide HBA)).mono ?_; rintro e w8 ⟨rfl, hb8⟩; have HE1 := hide hb8; have HBC2 := hide ((unhide HBC).more hb8); clear hb8))
          go_ret
          exact ⟨rfl, copies_end (unhide HBW) (unhide HWC) (unhide HE1) (unhide HE2)⟩
end Go.Proofs.Ytlbkoafeedlfaaa

namespace Go.Proofs.Ytlbkoafeedlfaaa.nodeCopies
open Go.ChangeShapes Go.WideShapes Go.ChangeAt Go.RowKit
open Go.ChangeMaps (open_string shut_string)

theorem own : ownKnob Try.prog.godebug = none := by kernel_rfl
theorem laidOut : laidOutB Try.prog = true := by kernel_rfl

set_option maxRecDepth 100000 in
theorem lifted (os : Os) (started : os.Started) (H : Type) (enc : TypeId × Value → H) :
    ReturnsInHanded {} Try.checked os 5 .any (Rows.nodeCopiesSpec.pre6 enc Try.prog Try.f5 Rows.nodeCopiesRow.domain false) (Rows.nodeCopiesSpec.post enc Try.prog Try.f5 false true false false) := by
  refine returnsInHanded_of_change_sized (C := Try.checked) own started (by kernel_rfl) Try.func5
    (ChangeSpec.witness6 (enc := enc) (C := Try.checked) false ⟨#[], #[.slice none 0 0, .slice none 0 0], []⟩ 8 (by kernel_rfl) (by kernel_rfl) (by kernel_rfl) (by kernel_rfl)) ?_
  intro W base args ds gs before hval0 hW hcnd hsz0 _
  have hval : ∀ (j : Nat) t v, Try.f5.params[j]? = some t → args[j]? = some v → Value.okWide Try.prog W .any base t v := hval0
  have hsz : ∀ (j : Nat) d, j < 2 → (ds ++ gs)[j]? = some d → (d.weights Try.prog 22).all (· ≤ reachBytes) = true := by
    intro j d hj hd
    refine List.all_eq_true.2 fun n hn => List.all_eq_true.1 hsz0 n ?_
    rcases (by omega : j = 0 ∨ j = 1) with rfl | rfl
    · exact DataW.weights_mem_each (j := 0) (t := 22) (d := d) (by rw [show Try.checked.prog = Try.prog from rfl, Try.params5]; rfl) hd n hn
    · exact DataW.weights_mem_each (j := 1) (t := 22) (d := d) (by rw [show Try.checked.prog = Try.prog from rfl, Try.params5]; rfl) hd n hn
  have hW' := hW
  obtain ⟨p, q, hA0, hV, rfl, hfz, hnd⟩ := hW
  have hA : DataW.TrodAll enc Try.prog W 0 (fun _ => true) true Try.f5.params.toList args.toList ds p := hA0
  rw [Try.params5] at hA hval
  obtain ⟨v0, vs0, d0, ds0, p0, q0, hargs, rfl, rfl, h0, r0⟩ := trodAll_cons hA
  obtain ⟨v1, vs1, d1, ds1, p1, q1, hargs1, rfl, rfl, h1, r1⟩ := trodAll_cons r0
  obtain ⟨rfl, rfl, rfl⟩ := trodAll_nil r1
  obtain rfl : args = #[v0, v1] := by cases args; simp_all
  obtain ⟨rfl, rfl⟩ := trodVars_none hV
  obtain ⟨a0, len0, cap0, rfl⟩ := okWide_slice Try.underlying22 (hval 0 22 v0 rfl rfl)
  obtain ⟨a1, len1, cap1, rfl⟩ := okWide_slice Try.underlying22 (hval 1 22 v1 rfl rfl)
  have k0 := h0
  have k1 := h1
  have lt0 : ∀ x ∈ p0, x.block < W.heap.size := by obtain ⟨m, hm⟩ := k0; exact DataW.trod_lt m _ _ _ hm
  have lt1 : ∀ x ∈ p1, x.block < W.heap.size := by obtain ⟨m, hm⟩ := k1; exact DataW.trod_lt m _ _ _ hm
  obtain ⟨l, rfl, hl, _⟩ := script_open h0 (hsz 0 d0 (by omega) rfl)
  obtain ⟨m, rfl, hl1, _⟩ := script_open h1 (hsz 1 d1 (by omega) rfl)
  clear hA0 hval0
  refine (copies_walk (fun _ _ _ _ _ h => same_any h) a0 a1 cap0 cap1 l m hl hl1).mono fun e W' ⟨he, bel⟩ => ?_
  subst he
  exact ⟨_, rfl, _, _, _, [], _, [], hW', trodAll_mk1 (shut_bool Try.underlying4 _), (trodAll_cons_mk (Below.trod laidOut (by kernel_rfl) (of_decide_eq_true (by kernel_rfl)) k0 bel lt0) (trodAll_cons_mk (Below.trod laidOut (by kernel_rfl) (of_decide_eq_true (by kernel_rfl)) k1 bel lt1) trodAll_mk0)), rfl, bel.frame _, fun h => by cases h⟩

theorem over : Rows.nodeCopiesRow.holds Try.pinned (OpenSpec.ofChange Rows.nodeCopiesSpec) :=
  OpenClaim.holds_of_wide 5 Try.f5 rfl rfl rfl rfl rfl rfl rfl ⟨rfl, rfl, rfl, rfl, rfl⟩ rfl rfl rfl rfl rfl (by kernel_rfl) Try.func5 (by kernel_rfl)
    (of_decide_eq_true (by kernel_rfl)) (by unfold Func.isWrapper; first | (rw [if_pos (by decide +kernel)]; kernel_rfl) | (rw [if_neg (by decide +kernel)]; exact ⟨rfl, rfl⟩))
    (fun os started H enc _ => lifted os started H enc)

end Go.Proofs.Ytlbkoafeedlfaaa.nodeCopies
namespace Go.Proofs.Ytlbkoafeedlfaaa
theorem nodeCopies_holds : Rows.NodeCopiesSaid := nodeCopies.over
end Go.Proofs.Ytlbkoafeedlfaaa
