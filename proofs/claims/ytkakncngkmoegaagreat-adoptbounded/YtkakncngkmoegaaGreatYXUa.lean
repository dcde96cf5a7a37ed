/-
  The law's acts, as the walks read them; the law's world, plain.
-/
import Derived.Test.YtkakncngkmoegaaGreatYXKi
import Derived.Test.YtkakncngkmoegaaGreatYXJo
import Derived.Test.YtkakncngkmoegaaGreatSZao
namespace Go.Proofs.YtkakncngkmoegaaGreat
open Go.ChangeShapes Go.WideShapes Go.ChangeAt Go.RowKit

structure ActB where
  text : ByteArray
  up : Int
  opn : Bool
  actv : Bool
  mrk : Bool
structure ActsB (w : World) (a : Option Addr) (l : List ActB) : Prop where
  cells : ∀ (i : Nat) x, l[i]? = some x → ∃ b off, a = some ⟨b, off, none⟩ ∧ w.cell? ⟨b, off + i * 5, none⟩ = some (.string x.text) ∧ w.cell? ⟨b, off + i * 5 + 1, none⟩ = some (.int .i64 x.up) ∧ w.cell? ⟨b, off + i * 5 + 2, none⟩ = some (.bool x.opn) ∧ w.cell? ⟨b, off + i * 5 + 3, none⟩ = some (.bool x.actv) ∧ w.cell? ⟨b, off + i * 5 + 4, none⟩ = some (.bool x.mrk)
theorem ActsB.below {w w' : World} {a : Option Addr} {l : List ActB} (h : ActsB w a l) (hb : Below w.heap.size w w') : ActsB w' a l := by
  refine ⟨fun i x hi => ?_⟩
  obtain ⟨b, off, e, c0, c1, c2, c3, c4⟩ := h.cells i x hi
  exact ⟨b, off, e, cell_kept hb c0, cell_kept hb c1, cell_kept hb c2, cell_kept hb c3, cell_kept hb c4⟩
theorem list5B {α : Type} (l : List α) (h : l.length = 5) : ∃ a b c d e, l = [a, b, c, d, e] := by
  match l, h with
  | [a, b, c, d, e], _ => exact ⟨a, b, c, d, e, rfl⟩

section
variable {H : Type} {enc : TypeId × Value → H} {W : World} {spare : Nat → Bool} {held : Bool}

theorem actB_cells {fuel : Nat} {cs : List Value} {x : DataW H × List MemPlace} (h : DataW.trod enc Tryz.prog W 0 spare held fuel 74 cs = some x) : ∃ z : ActB, cs = [.string z.text, .int .i64 z.up, .bool z.opn, .bool z.actv, .bool z.mrk] := by
  have hcn : Tryz.prog.cellsOf 74 = 5 := by kernel_rfl
  have hc3 : Tryz.prog.cellsOf 3 = 1 := by kernel_rfl
  have hc9 : Tryz.prog.cellsOf 9 = 1 := by kernel_rfl
  have hc4 : Tryz.prog.cellsOf 4 = 1 := by kernel_rfl
  obtain ⟨xs, k, _, rfl, hl, hxl, hfs⟩ := DataW.trod_struct Tryz.underlying74 h
  rw [hcn] at hl
  obtain ⟨e0, e1, e2, e3, e4, rfl⟩ := list5B cs hl
  have f0 := hfs 0 _ rfl
  have f1 := hfs 1 _ rfl
  have f2 := hfs 2 _ rfl
  have f3 := hfs 3 _ rfl
  have f4 := hfs 4 _ rfl
  have hx : xs.length = 5 := by simpa using hxl
  obtain ⟨y0, y1, y2, y3, y4, rfl⟩ := list5B xs hx
  simp [hc3, hc9, hc4] at f0 f1 f2 f3 f4
  obtain ⟨z0, g0, _, _⟩ := DataW.trod_string Tryz.underlying9 f0
  obtain ⟨z1, g1, _, _⟩ := DataW.trod_int Tryz.underlying3 f1
  obtain ⟨z2, g2, _⟩ := DataW.trod_bool Tryz.underlying4 f2
  obtain ⟨z3, g3, _⟩ := DataW.trod_bool Tryz.underlying4 f3
  obtain ⟨z4, g4, _⟩ := DataW.trod_bool Tryz.underlying4 f4
  simp at g0 g1 g2 g3 g4
  subst g0 g1 g2 g3 g4
  exact ⟨⟨z0, z1, z2, z3, z4⟩, rfl⟩

/-- A slice of them that came in. -/
theorem actsB_open {a : Option Addr} {len cap : Nat} {d : DataW H} {ps : List MemPlace} (h : DataW.Trod enc Tryz.prog W 0 spare held 22 (.slice a len cap) d ps) (hw : (d.weights Tryz.prog 22).all (· ≤ reachBytes) = true) :
    ∃ l : List ActB, len = l.length ∧ ActsB W a l ∧ l.length ≤ 140737488351232 := by
  obtain ⟨fuel, hf⟩ := h
  rcases Go.Deep.open_slice Tryz.underlying22 hf with ⟨hcs, _⟩ | ⟨x, len', cap', m, n, D, Pl, hcs, _, hlc, hcm, hm, hd, hel⟩
  · simp [Value.cells] at hcs
    obtain ⟨rfl, rfl, rfl⟩ := hcs
    exact ⟨[], rfl, ⟨fun i x hi => by simp at hi⟩, by simp⟩
  · simp [Value.cells] at hcs
    obtain ⟨rfl, rfl, rfl⟩ := hcs
    cases hd
    have hcn : Tryz.prog.cellsOf 74 = 5 := by kernel_rfl
    have hbn : Tryz.prog.bytesOf 74 = 32 := by kernel_rfl
    have hlm : len ≤ m := by rw [hm]; split <;> omega
    have one : ∀ i, i < len → ∃ z : ActB, ∃ b off, x = ⟨b, off, none⟩ ∧ W.cell? ⟨b, off + i * 5, none⟩ = some (.string z.text) ∧ W.cell? ⟨b, off + i * 5 + 1, none⟩ = some (.int .i64 z.up) ∧ W.cell? ⟨b, off + i * 5 + 2, none⟩ = some (.bool z.opn) ∧ W.cell? ⟨b, off + i * 5 + 3, none⟩ = some (.bool z.actv) ∧ W.cell? ⟨b, off + i * 5 + 4, none⟩ = some (.bool z.mrk) := by
      intro i hi
      obtain ⟨cs', hcs', htr⟩ := hel i (by omega)
      rw [hcn] at hcs'
      obtain ⟨z, rfl⟩ := actB_cells htr
      have c0 := cells_get hcs' 0 _ rfl
      have c1 := cells_get hcs' 1 _ rfl
      have c2 := cells_get hcs' 2 _ rfl
      have c3 := cells_get hcs' 3 _ rfl
      have c4 := cells_get hcs' 4 _ rfl
      rw [Go.Deep.add_add] at c0 c1 c2 c3 c4
      obtain ⟨i0, hi0⟩ : ∃ i0 : Nat, i0 = 0 := ⟨0, rfl⟩
      obtain ⟨cs0, hcs0, htr0⟩ := hel i0 (by omega)
      rw [hcn] at hcs0
      obtain ⟨z', rfl⟩ := actB_cells htr0
      have p0 := cells_get hcs0 0 _ rfl
      rw [Go.Deep.add_add, show i0 * 5 + 0 = 0 by omega] at p0
      obtain ⟨b, off, rfl⟩ := addr_plain p0
      rw [add_at] at c0 c1 c2 c3 c4
      exact ⟨z, b, off, rfl, c0, c1, c2, c3, c4⟩
    obtain ⟨f, hf'⟩ : ∃ f : Nat → ActB, ∀ i, i < len → ∃ b off, x = ⟨b, off, none⟩ ∧ W.cell? ⟨b, off + i * 5, none⟩ = some (.string (f i).text) ∧ W.cell? ⟨b, off + i * 5 + 1, none⟩ = some (.int .i64 (f i).up) ∧ W.cell? ⟨b, off + i * 5 + 2, none⟩ = some (.bool (f i).opn) ∧ W.cell? ⟨b, off + i * 5 + 3, none⟩ = some (.bool (f i).actv) ∧ W.cell? ⟨b, off + i * 5 + 4, none⟩ = some (.bool (f i).mrk) := by
      have : Inhabited ActB := ⟨⟨⟨#[]⟩, 0, false, false, false⟩⟩
      exact Go.Deep.choose_lt one
    refine ⟨(List.range len).map f, by simp, ⟨fun i y hi => ?_⟩, ?_⟩
    · have hlt : i < len := by have := (List.getElem?_eq_some_iff.1 hi).1; simpa using this
      have hy : f i = y := by simpa [hlt] using hi
      obtain ⟨b, off, e, c0, c1, c2, c3, c4⟩ := hf' i hlt
      subst hy
      exact ⟨b, off, by rw [e], c0, c1, c2, c3, c4⟩
    · have := List.all_eq_true.1 hw (((List.range len).map D).length * 32 + ((List.range (m - len)).map fun j => D (len + j)).length * 32) (by simp [DataW.weights, Tryz.underlying22, hbn, Nat.add_mul])
      simp [reachBytes] at this
      simp
      omega
end

-- plain
structure BS where
  os : List OneM
  L : List Int
  es : List EntM
  qs : List EntQ
def tokB (nm : ByteArray) : TokM := ⟨1, nm, ⟨#[]⟩, ⟨#[]⟩, 0, false, 0, false, []⟩
def lnkB (s : BS) (c : ActB) : List OneM := linkR (elemO s.os 0 c.text []).1 c.up (elemO s.os 0 c.text []).2.1 (-1)
def e1B (s : BS) (c : ActB) : List EntM := if c.mrk = true then s.es ++ [mark0] else s.es
def q1B (s : BS) (c : ActB) : List EntQ := if c.mrk = true then s.qs ++ [markQ] else s.qs
def stepB (s : BS) (c : ActB) : BS :=
  if (elemO s.os 0 c.text []).2.2 = 0 then
    ⟨lnkB s c, if c.opn = true then pushL (keysO (lnkB s c)) s.L (elemO s.os 0 c.text []).2.1 else s.L, if c.actv = true then pushE (keysO (lnkB s c)) (e1B s c) (elemO s.os 0 c.text []).2.1 (tokB c.text) else e1B s c, if c.actv = true then pushQ (keysO (lnkB s c)) (q1B s c) (elemO s.os 0 c.text []).2.1 (tokB c.text) else q1B s c⟩
  else ⟨(elemO s.os 0 c.text []).1, s.L, s.es, s.qs⟩
def worldB (l : List ActB) : BS := l.foldl stepB ⟨[oneM 0], [], [], []⟩
theorem worldB_next {l : List ActB} {i : Nat} {c : ActB} (h : l[i]? = some c) : worldB (l.take (i + 1)) = stepB (worldB (l.take i)) c := by
  unfold worldB
  rw [List.take_add_one, h]
  simp
structure BI (s : BS) (n : Nat) : Prop where
  inv : Inv ⟨s.os, s.L, s.es, 0⟩ (2 * n + 1)
  el : s.es.length ≤ 2 * n
  qok : QOk (keysO s.os) s.qs
  ql : s.qs.length ≤ 2 * n
theorem BI.start : BI ⟨[oneM 0], [], [], []⟩ 0 := ⟨⟨Good.nil _, fun x hx => by simp at hx, by simp, by simp, fun o ho => by simp at ho; subst ho; exact oneI_oneM 0 (.inl rfl) (-1)⟩, by simp, QOk.nil _, by simp⟩
/-- A new element that was made. -/
theorem elem_made {os : List OneM} {nm : ByteArray} (h : (elemO os 0 nm []).2.2 = 0) : longS nm = false := by
  unfold elemO at h
  rw [if_neg (by omega)] at h
  cases hn : longS nm with
  | false => rfl
  | true =>
    rw [longE_nil, hn] at h
    simp at h
theorem pushE_ok {ks : List Key} {es : List EntM} (h : ∀ x ∈ es, EntOk ks x) {id : Int} {nm : ByteArray} (hk : keyAt ks id = some ⟨1, 0, nm⟩) (hl : longS nm = false) : (∀ x ∈ pushE ks es id (tokB nm), EntOk ks x) ∧ (pushE ks es id (tokB nm)).length ≤ es.length + 1 := by
  unfold pushE
  split
  · refine ⟨fun x hx => ?_, ?_⟩
    · rcases List.mem_append.1 hx with e | e
      · exact h x (delE_sub _ _ x e)
      · simp at e
        subst e
        exact .inr ⟨hk, hl, rfl⟩
    · rw [List.length_append]
      have := delE_leG es (surE (newE ks es id (tokB nm)) es)
      simp
      omega
  · exact ⟨h, by omega⟩
/-- What an act leaves, and what stands in between. -/
structure BN (s : BS) (c : ActB) (n : Nat) : Prop where
  good : Good (keysO (lnkB s c)) s.L
  ent : ∀ x ∈ e1B s c, EntOk (keysO (lnkB s c)) x
  el : (e1B s c).length ≤ 2 * n + 1
  qok : QOk (keysO (lnkB s c)) (q1B s c)
  ql : (q1B s c).length ≤ 2 * n + 1
theorem BI.between {s : BS} {n : Nat} (h : BI s n) (c : ActB) : BN s c n := by
  obtain ⟨ms, e, hm, ho⟩ := elemO_grow s.os c.text
  have hk : keysO (lnkB s c) = keysO s.os ++ keysO ms := by
    unfold lnkB
    rw [keysO_link, e, keysO_appG]
  refine ⟨by rw [hk]; exact h.inv.good.grow, fun x hx => ?_, ?_, ?_, ?_⟩
  · rw [hk]
    unfold e1B at hx
    split at hx
    · rcases List.mem_append.1 hx with e1 | e1
      · exact (h.inv.ent x e1).grow
      · simp at e1; subst e1; exact .inl rfl
    · exact (h.inv.ent x hx).grow
  · unfold e1B
    have := h.el
    split
    · simp; omega
    · omega
  · rw [hk]
    unfold q1B
    split
    · exact h.qok.grow.mark
    · exact h.qok.grow
  · unfold q1B
    have := h.ql
    split
    · simp; omega
    · omega
theorem BI.step {s : BS} {n : Nat} (h : BI s n) (hn : n ≤ 1000) (c : ActB) : BI (stepB s c) (n + 1) := by
  obtain ⟨ms, e, hm, ho⟩ := elemO_grow s.os c.text
  have hf := h.inv.few
  simp only at hf
  have h1 : ∀ o ∈ (elemO s.os 0 c.text []).1, OneI o := by
    rw [e]
    intro o hx
    rcases List.mem_append.1 hx with hx | hx
    · exact h.inv.one o hx
    · exact ho o hx
  have hel := h.el
  have hql := h.ql
  unfold stepB
  split
  · rename_i he
    have hlong := elem_made he
    obtain ⟨ms2, e2, i2, _, _, _, _, k2⟩ := elemO_new (os := s.os) (nm := c.text) (by omega) hlong
    have hb := h.between c
    have hkey : keyAt (keysO (lnkB s c)) (elemO s.os 0 c.text []).2.1 = some ⟨1, 0, c.text⟩ := by
      unfold lnkB
      rw [keysO_link, e2, i2]
      exact k2
    have hp := pushE_ok hb.ent hkey hlong
    have hq := hb.qok.push (elemO s.os 0 c.text []).2.1 (tokB c.text) rfl
    have hl1 := hb.el
    have hl2 := hb.ql
    refine ⟨⟨?_, ?_, ?_, ?_, ?_⟩, ?_, ?_, ?_⟩
    · simp only
      split
      · exact hb.good.pushed _
      · exact hb.good
    · simp only
      split
      · exact hp.1
      · exact hb.ent
    · simp only [lnkB]
      rw [linkR_len, e, List.length_append]
      omega
    · simp only
      split
      · have := hp.2; omega
      · omega
    · exact oneI_link h1 _ _ _
    · simp only
      split
      · have := hp.2; omega
      · omega
    · simp only
      split
      · exact hq.1
      · exact hb.qok
    · simp only
      split
      · have := hq.2; omega
      · omega
  · refine ⟨⟨?_, ?_, ?_, ?_, h1⟩, by simp only; omega, ?_, by simp only; omega⟩
    · simp only
      rw [e, keysO_appG]
      exact h.inv.good.grow
    · intro x hx
      simp only
      rw [e, keysO_appG]
      exact (h.inv.ent x hx).grow
    · simp only
      rw [e, List.length_append]
      omega
    · simp only; omega
    · simp only
      rw [e, keysO_appG]
      exact h.qok.grow
theorem BI.all (l : List ActB) : ∀ i, i ≤ 1000 → i ≤ l.length → BI (worldB (l.take i)) i
  | 0, _, _ => by
    rw [List.take_zero]
    exact BI.start
  | i + 1, h, hl => by
    rw [worldB_next (List.getElem?_eq_getElem (show i < l.length by omega))]
    exact (BI.all l i (by omega) (by omega)).step (by omega) _
end Go.Proofs.YtkakncngkmoegaaGreat
