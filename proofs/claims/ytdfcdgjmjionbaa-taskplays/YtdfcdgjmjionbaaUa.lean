/-
  The document's lists in memory: a slice of jobs from anywhere in a block of its own on; one more behind it; the first one gone.
-/
import Derived.Test.YtdfcdgjmjionbaaTg
import Derived.Lib.AppendZerosOnto
namespace Go.Proofs.Ytdfcdgjmjionbaa
open Go.RowKit Go.Lib

/-- A job: its number, the block of its act. -/
structure Jb where
  n : Int
  b : Nat
def Jb.cells (x : Jb) : List Value := [.int .i64 2, .slice none 0 0, .slice (some ⟨x.b, 0, none⟩) 1 1]
def rowT (l : List Jb) : List Value := l.flatMap Jb.cells
theorem rowT_len (l : List Jb) : (rowT l).length = l.length * 3 := flat_len Jb.cells 3 (fun _ => rfl) l
theorem rowT_one (l : List Jb) : ∀ u ∈ rowT l, u.oneCell' = true := by
  intro u hu
  simp only [rowT, List.mem_flatMap] at hu
  obtain ⟨x, _, hx⟩ := hu
  simp [Jb.cells] at hx
  rcases hx with rfl | rfl | rfl <;> rfl
theorem rowT_append (l m : List Jb) : rowT (l ++ m) = rowT l ++ rowT m := by simp [rowT]

/-- A slice of jobs: where it begins, its room, what it holds. -/
structure PartM where
  a : Option Addr
  cap : Nat
  xs : List Jb
def PartM.val (p : PartM) : Value := .slice p.a p.xs.length p.cap
def PartM.own (p : PartM) : Option Nat := if p.cap = 0 then none else p.a.map Addr.block
structure PartAt (w : World) (base : Nat) (p : PartM) : Prop where
  len : p.xs.length ≤ p.cap
  most : p.cap ≤ maxLen
  lies : p.cap = 0 ∨ ∃ g off cur, p.a = some ⟨g, off, none⟩ ∧ base ≤ g ∧ w.heap[g]? = some (.cells cur 34 (0, 0)) ∧ off + p.cap * 3 ≤ cur.size ∧ ∀ j u, (rowT p.xs)[j]? = some u → cur[off + j]? = some u

section
variable {w w' : World} {base : Nat} {p : PartM}
theorem PartAt.nil (w : World) (base : Nat) (a : Option Addr) : PartAt w base ⟨a, 0, []⟩ := ⟨Nat.le_refl _, Nat.zero_le _, .inl rfl⟩
theorem PartAt.row (h : PartAt w base p) : RowIn w (fun k => p.own = some k) p.a (rowT p.xs) := by
  intro j u hj
  have hlt := (List.getElem?_eq_some_iff.1 hj).1
  rw [rowT_len] at hlt
  rcases h.lies with hz | ⟨g, off, cur, ha, _, hg, _, hc⟩
  · have := h.len; omega
  · have hz : p.cap ≠ 0 := by have := h.len; omega
    exact ⟨g, off, ha, by unfold PartM.own; rw [if_neg hz, ha]; rfl, by simp [World.cell?, hg, hc j u hj]⟩
theorem PartAt.own_lt (h : PartAt w base p) {k : Nat} (hk : p.own = some k) : base ≤ k ∧ k < w.heap.size ∧ ∃ cur, w.heap[k]? = some (.cells cur 34 (0, 0)) := by
  unfold PartM.own at hk
  split at hk
  · cases hk
  · rename_i hz
    rcases h.lies with h0 | ⟨g, off, cur, ha, hb, hg, _⟩
    · exact absurd h0 hz
    · rw [ha] at hk
      simp at hk
      subst hk
      exact ⟨hb, lt_of_block hg, cur, hg⟩
theorem PartAt.kept (h : PartAt w base p) (hk : ∀ k, p.own = some k → w'.heap[k]? = w.heap[k]?) : PartAt w' base p := by
  refine ⟨h.len, h.most, ?_⟩
  rcases h.lies with h0 | ⟨g, off, cur, ha, hb, hg, r⟩
  · exact .inl h0
  · by_cases hz : p.cap = 0
    · exact .inl hz
    · have : p.own = some g := by unfold PartM.own; rw [if_neg hz, ha]; rfl
      exact .inr ⟨g, off, cur, ha, hb, (hk g this).trans hg, r⟩
theorem PartAt.mod {F : Nat → Prop} (h : PartAt w base p) (hm : Mod F w w') (hF : ∀ k, p.own = some k → ¬ F k) : PartAt w' base p :=
  h.kept fun k hk => hm.block k (h.own_lt hk).2.1 (hF k hk)
end

theorem setCells_block (b : Nat) : ∀ (vs : List Value) (o : Nat) (w : World) (cur : Array Value) (t : TypeId), w.heap[b]? = some (.cells cur t (0, 0)) →
    ∃ cur', (w.setCells b o vs).heap[b]? = some (.cells cur' t (0, 0)) ∧ cur'.size = cur.size
  | [], _, w, cur, t, h => ⟨cur, h, rfl⟩
  | v :: r, o, w, cur, t, h => by
    have h1 := heap_setCell_same w b o cur t v h
    obtain ⟨cur', h2, h3⟩ := setCells_block b r (o + 1) _ _ t h1
    exact ⟨cur', h2, by rw [h3]; simp⟩
theorem setCells_size (b : Nat) : ∀ (vs : List Value) (o : Nat) (w : World), (w.setCells b o vs).heap.size = w.heap.size
  | [], _, _ => rfl
  | v :: r, o, w => by rw [World.setCells, setCells_size b r]; simp
theorem setCells_other (b k : Nat) (hk : k ≠ b) : ∀ (vs : List Value) (o : Nat) (w : World), (w.setCells b o vs).heap[k]? = w.heap[k]?
  | [], _, _ => rfl
  | v :: r, o, w => by rw [World.setCells, setCells_other b k hk r]; exact Below.heap_setCell _ _ _ _ hk
theorem setCells_rest (b : Nat) : ∀ (vs : List Value) (o : Nat) (w : World), (w.setCells b o vs).os = w.os ∧ (w.setCells b o vs).tape = w.tape ∧ (w.setCells b o vs).output = w.output
  | [], _, _ => ⟨rfl, rfl, rfl⟩
  | v :: r, o, w => by rw [World.setCells]; exact setCells_rest b r (o + 1) _
theorem setCells_mod (w : World) (b o : Nat) (vs : List Value) : Mod (fun k => some k = some b) w (w.setCells b o vs) :=
  ⟨(setCells_rest b vs o w).1, (setCells_rest b vs o w).2.1, (setCells_rest b vs o w).2.2, by rw [setCells_size]; exact Nat.le_refl _, fun k _ hk => setCells_other b k (fun e => hk (by rw [e])) vs o w⟩

theorem info34 : (Try.prog.info? 34).map (fun i => (i.zero, i.size, i.bytes)) = some (some (.agg #[.int .i64 0, .slice none 0 0, .slice none 0 0]), 3, 56) := by kernel_rfl

/-- One job behind a list of jobs. -/
theorem part_append {w : World} {base : Nat} {p : PartM} (hp : PartAt w base p) (hb : base ≤ w.heap.size) (ty : TypeId) (x : Jb) (a : Option Addr) (c : Nat) {F : Nat → Prop} (hl : RowIn w F a x.cells) (hm : p.xs.length ≤ 5000) :
    ∃ p' w', (Builtin.append_ #[67, 67] ty #[p.val, .slice a 1 c]).run Try.prog w = .ok p'.val w' ∧ PartAt w' base p' ∧ p'.xs = p.xs ++ [x] ∧ Mod (fun k => p.own = some k) w w' ∧ (p'.own = p.own ∨ p'.own = some w.heap.size) := by
  obtain ⟨i0, hi0, hz0, hz1, hz2⟩ := info_parts info34
  have hu : Try.prog.underlying 67 = some (.slice 34) := Try.underlying67
  obtain ⟨sb, so, rfl⟩ := hl.src (by simp [Jb.cells])
  have hs : Src Try.prog 3 67 (.slice (some ⟨sb, so, none⟩) 1 c) 1 x.cells w := Src.ofSlice w hu ⟨sb, so, none⟩ 1 c x.cells (by simp [Jb.cells]) (hl.news sb so rfl) (fun u hu => rowT_one [x] u (by simpa [rowT] using hu))
  have hmo := hp.most
  by_cases hroom : p.xs.length + 1 ≤ p.cap
  · rcases hp.lies with h0 | ⟨g, off, cur, ha, hbb, hg, hsz, hcs⟩
    · omega
    · have hin : ∀ j, j < x.cells.length → (w.cell? ⟨g, off + p.xs.length * 3 + j, none⟩).isSome = true := by
        intro j hj
        have hj3 : j < 3 := hj
        rw [Nat.add_assoc, cell_of_row w g (off + (p.xs.length * 3 + j)) cur 34 (0, 0) hg, Array.getElem?_eq_getElem (by omega)]
        rfl
      have hfr : ∀ j, w.frozen? ⟨g, j, none⟩ = false := fun j => by simp [World.frozen?, hg]
      have hr := run_append_room_src (P := Try.prog) w 67 67 ty 34 i0 hu hi0 g off p.xs.length p.cap _ 1 x.cells (by rw [hz1]; exact hs) hroom
        (by rw [hz1]; exact hin) (by intro j _; exact hfr _)
      rw [hz1] at hr
      have ho : p.own = some g := by unfold PartM.own; rw [if_neg (by omega), ha]; rfl
      refine ⟨⟨p.a, p.cap, p.xs ++ [x]⟩, w.setCells g (off + p.xs.length * 3) x.cells, ?_, ⟨by simpa using hroom, hmo, .inr ?_⟩, rfl, by rw [ho]; exact (setCells_mod w g _ _).mono (fun k _ h => h.symm), .inl rfl⟩
      · unfold PartM.val
        simp only [List.length_append, List.length_cons, List.length_nil, Nat.zero_add]
        rw [ha]
        exact hr
      · obtain ⟨cur', h1, h2⟩ := setCells_block g x.cells (off + p.xs.length * 3) w cur 34 hg
        refine ⟨g, off, cur', ha, hbb, h1, by rw [h2]; exact hsz, fun j u hj => ?_⟩
        rw [← cell_of_row _ g (off + j) cur' 34 (0, 0) h1]
        simp only [rowT_append] at hj
        by_cases hjl : j < (rowT p.xs).length
        · rw [World.cell?_setCells_out g _ _ _ _ (fun _ _ => .inl (by rw [rowT_len] at hjl; simp; omega)), cell_of_row w g (off + j) cur 34 (0, 0) hg]
          rw [List.getElem?_append_left hjl] at hj
          exact hcs j u hj
        · rw [List.getElem?_append_right (by omega)] at hj
          rw [rowT_len] at hj hjl
          have he : rowT [x] = x.cells := by simp [rowT]
          rw [he] at hj
          have hlt3 : j - p.xs.length * 3 < x.cells.length := (List.getElem?_eq_some_iff.1 hj).1
          have := World.cell?_setCells_in g x.cells (off + p.xs.length * 3) w hin (j - p.xs.length * 3) hlt3
          rw [show off + p.xs.length * 3 + (j - p.xs.length * 3) = off + j by omega] at this
          rw [this, ← hj, List.getElem?_eq_getElem hlt3]
  · have hold : (Builtin.firstCells i0.size p.xs.length (.slice p.a p.xs.length p.cap)).run Try.prog w.drew = .ok (rowT p.xs).toArray w.drew := by
      rw [hz1]
      have hrow := hp.row
      have hsrc : Src Try.prog 3 67 (.slice p.a p.xs.length p.cap) p.xs.length (rowT p.xs) w := by
        cases hx : p.xs with
        | nil =>
          cases p.a with
          | none => exact Src.ofNil w hu _
          | some ad => exact Src.ofSlice w hu ad 0 _ [] (by simp) (fun j u hu => by simp at hu) (by simp)
        | cons y l =>
          rw [hx] at hrow
          obtain ⟨b, off, ha⟩ := hrow.src (by rw [rowT_len]; simp)
          rw [ha] at hrow ⊢
          exact Src.ofSlice w hu ⟨b, off, none⟩ _ _ _ (rowT_len _) (hrow.news b off rfl) (rowT_one _)
      exact hsrc.cellsD
    have hr := run_append_grow_src (P := Try.prog) w 67 67 ty 34 i0 _ hu hi0 hz0 p.a p.xs.length p.cap (rowT p.xs) hold _ 1 x.cells (by rw [hz1]; exact hs) (by omega) (by omega)
      (growslice_fits (by omega) (by rw [hz2]; omega))
    have hge := grownCap_ge w (p.xs.length + 1) p.cap 34
    have hle := grownCap_le_maxLen w (p.xs.length + 1) p.cap 34 (by unfold maxLen; omega)
    refine ⟨⟨some ⟨w.heap.size, 0, none⟩, grownCap w (p.xs.length + 1) p.cap 34, p.xs ++ [x]⟩, w.drew.alloc (.cells ((rowT p.xs ++ x.cells).toArray ++ Builtin.zeroCells (Value.agg #[Value.int IntKind.i64 0, Value.slice none 0 0, Value.slice none 0 0]).cells (grownCap w (p.xs.length + 1) p.cap 34 - (p.xs.length + 1))) 34), ?_, ⟨by simpa using hge, hle, .inr ⟨w.heap.size, 0, _, rfl, hb, heap_alloc_new w.drew _, ?_, ?_⟩⟩, rfl, ?_, .inr ?_⟩
    · unfold PartM.val
      simp only [List.length_append, List.length_cons, List.length_nil, Nat.zero_add]
      exact hr
    · simp only [Array.size_append, List.size_toArray, size_zeroCells, List.length_append, rowT_len]
      simp [Value.cells, Jb.cells]
      omega
    · intro j u hj
      simp only [rowT_append] at hj
      have hlt := (List.getElem?_eq_some_iff.1 hj).1
      have he : rowT [x] = x.cells := by simp [rowT]
      rw [he] at hj hlt
      rw [Nat.zero_add, Array.getElem?_append_left (by simpa using hlt)]
      simp only [List.getElem?_toArray]
      exact hj
    · exact Mod.of_below (((Below.refl _ w).drew).alloc (by simp) _)
    · unfold PartM.own
      rw [if_neg (by simp only; omega)]
      rfl
end Go.Proofs.Ytdfcdgjmjionbaa
