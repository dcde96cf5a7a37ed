import Derived.Test.YtmllhebmaldgfaaAk
import Derived.ArgAppend
import Derived.Deep.AppendLies
import Derived.Deep.AppendSrc
import Derived.Deep.Upon
import Derived.Lib.AppendZerosOnto
import Derived.Deep.LoopGhost
import Derived.Deep.QuietTactic
import Derived.BigQuiet
/-
  A list of numbers in memory: a slice from anywhere in a block of its own on; what an append does to it.
-/
namespace Go.Proofs.Ytmllhebmaldgfaa
open Go.RowKit

/-- The second may write what the first made. -/
theorem Mod.then {F G : Nat → Prop} {a b c : World} (h : Mod F a b) (k : Mod G b c) (hG : ∀ i, G i → F i ∨ a.heap.size ≤ i) : Mod F a c :=
  ⟨k.os.trans h.os, k.tape.trans h.tape, k.output.trans h.output, Nat.le_trans h.size k.size, fun i hi hf => (k.block i (Nat.lt_of_lt_of_le hi h.size) (fun hg => (hG i hg).elim hf (fun h => by omega))).trans (h.block i hi hf)⟩

/-- A slice of numbers: where it begins, its room, what it holds. -/
structure PartM where
  a : Option Addr
  cap : Nat
  xs : List Int

def PartM.val (p : PartM) : Value := .slice p.a p.xs.length p.cap
def PartM.own (p : PartM) : Option Nat := if p.cap = 0 then none else p.a.map Addr.block
def numsV (l : List Int) : List Value := l.map fun x => Value.int .i64 x
theorem numsV_len (l : List Int) : (numsV l).length = l.length := by simp [numsV]
theorem nums_one (l : List Int) : ∀ u ∈ numsV l, u.oneCell' = true := by
  intro u hu
  unfold numsV at hu
  obtain ⟨c, _, rfl⟩ := List.mem_map.1 hu
  rfl
theorem numsV_at {l : List Int} {j : Nat} {x : Int} (h : l[j]? = some x) : (numsV l)[j]? = some (.int .i64 x) := by simp [numsV, h]

/-- It lies so, in a block of its own that is not older than base. -/
structure PartAt (w : World) (base : Nat) (p : PartM) : Prop where
  len : p.xs.length ≤ p.cap
  most : p.cap ≤ maxLen
  lies : p.cap = 0 ∨ ∃ g off cur, p.a = some ⟨g, off, none⟩ ∧ base ≤ g ∧ w.heap[g]? = some (.cells cur 3 (0, 0)) ∧ off + p.cap ≤ cur.size ∧ ∀ j x, p.xs[j]? = some x → cur[off + j]? = some (.int .i64 x)

/-- Code points that can be read. -/
def NumsIn (w : World) (a : Option Addr) (l : List Int) : Prop := ∀ i x, l[i]? = some x → ∃ b off, a = some ⟨b, off, none⟩ ∧ w.cell? ⟨b, off + i, none⟩ = some (.int .i64 x)

section
variable {w w' : World} {base : Nat} {p : PartM}

theorem PartAt.nil (w : World) (base : Nat) (a : Option Addr) : PartAt w base ⟨a, 0, []⟩ := ⟨Nat.le_refl _, Nat.zero_le _, .inl rfl⟩
theorem PartAt.nums (h : PartAt w base p) : NumsIn w p.a p.xs := by
  intro i x hi
  have hlt := (List.getElem?_eq_some_iff.1 hi).1
  rcases h.lies with hz | ⟨g, off, cur, ha, _, hg, _, hc⟩
  · have := h.len; omega
  · exact ⟨g, off, ha, by simp [World.cell?, hg, hc i x hi]⟩
theorem PartAt.own_lt (h : PartAt w base p) {k : Nat} (hk : p.own = some k) : base ≤ k ∧ k < w.heap.size ∧ ∃ cur, w.heap[k]? = some (.cells cur 3 (0, 0)) := by
  unfold PartM.own at hk
  split at hk
  · cases hk
  · rename_i hz
    rcases h.lies with h0 | ⟨g, off, cur, ha, hb, hg, _⟩
    · exact absurd h0 hz
    · rw [ha] at hk
      simp at hk
      subst hk
      exact ⟨hb, lt_of_block hg, cur, hg⟩
theorem PartAt.kept (h : PartAt w base p) (hk : ∀ k, p.own = some k → w'.heap[k]? = w.heap[k]?) : PartAt w' base p := by
  refine ⟨h.len, h.most, ?_⟩
  rcases h.lies with h0 | ⟨g, off, cur, ha, hb, hg, r⟩
  · exact .inl h0
  · by_cases hz : p.cap = 0
    · exact .inl hz
    · have : p.own = some g := by unfold PartM.own; rw [if_neg hz, ha]; rfl
      exact .inr ⟨g, off, cur, ha, hb, (hk g this).trans hg, r⟩
theorem PartAt.mod {F : Nat → Prop} (h : PartAt w base p) (hm : Mod F w w') (hF : ∀ k, p.own = some k → ¬ F k) : PartAt w' base p :=
  h.kept fun k hk => hm.block k (h.own_lt hk).2.1 (hF k hk)
theorem PartAt.below (h : PartAt w base p) (hb : Below w.heap.size w w') : PartAt w' base p := h.kept fun k hk => hb.block k (h.own_lt hk).2.1
theorem PartAt.lower {b2 : Nat} (h : PartAt w base p) (hb : b2 ≤ base) : PartAt w b2 p := by
  refine ⟨h.len, h.most, h.lies.imp id ?_⟩
  rintro ⟨g, off, cur, ha, hbb, r⟩
  exact ⟨g, off, cur, ha, Nat.le_trans hb hbb, r⟩
theorem NumsIn.below {a : Option Addr} {l : List Int} (h : NumsIn w a l) (hb : Below w.heap.size w w') : NumsIn w' a l := by
  intro i x hi
  obtain ⟨b, off, ha, hc⟩ := h i x hi
  exact ⟨b, off, ha, by rw [hb.cell (World.block_lt_of_cell? w _ hc)]; exact hc⟩
theorem NumsIn.mod {F : Nat → Prop} {a : Option Addr} {l : List Int} (h : NumsIn w a l) (hm : Mod F w w') (hF : ∀ b off, a = some ⟨b, off, none⟩ → ¬ F b) : NumsIn w' a l := by
  intro i x hi
  obtain ⟨b, off, ha, hc⟩ := h i x hi
  exact ⟨b, off, ha, by rw [World.cell?_of_block (hm.block b (World.block_lt_of_cell? w _ hc) (hF b off ha))]; exact hc⟩
theorem NumsIn.take {a : Option Addr} {l : List Int} (h : NumsIn w a l) (n : Nat) : NumsIn w a (l.take n) := by
  intro i x hi
  rw [List.getElem?_take] at hi
  split at hi
  · exact h i x hi
  · cases hi
theorem NumsIn.drop {b off : Nat} {l : List Int} (h : NumsIn w (some ⟨b, off, none⟩) l) (n : Nat) : NumsIn w (some ⟨b, off + n, none⟩) (l.drop n) := by
  intro i x hi
  rw [List.getElem?_drop] at hi
  obtain ⟨b', off', ha, hc⟩ := h _ x hi
  cases ha
  exact ⟨_, _, rfl, by rw [Nat.add_assoc]; exact hc⟩

theorem add_at (b off j : Nat) : (⟨b, off, none⟩ : Addr).add j = ⟨b, off + j, none⟩ := by unfold Addr.add; split <;> simp_all

theorem NumsIn.src {P : Program} {a : Option Addr} {l : List Int} {e : TypeId} (h : NumsIn w a l) (he : P.underlying 77 = some (.slice e)) (c : Nat) : Src P 1 77 (.slice a l.length c) l.length (numsV l) w := by
  cases l with
  | nil =>
    cases a with
    | none => exact Src.ofNil w he c
    | some ad => exact Src.ofSlice w he ad 0 c [] (by simp) (fun j u hu => by simp at hu) (by simp)
  | cons y l =>
    obtain ⟨b, off, rfl, _⟩ := h 0 y rfl
    refine Src.ofSlice w he _ _ c _ (by simp [numsV]) (fun j u hu => ?_) (nums_one _)
    unfold numsV at hu
    rw [List.getElem?_map] at hu
    cases hj : (y :: l)[j]? with
    | none => rw [hj] at hu; cases hu
    | some x =>
      rw [hj] at hu
      cases hu
      obtain ⟨b', off', ha, hc⟩ := h j x hj
      cases ha
      rw [add_at]
      exact hc

theorem setCells_block (b : Nat) : ∀ (vs : List Value) (o : Nat) (w : World) (cur : Array Value) (t : TypeId), w.heap[b]? = some (.cells cur t (0, 0)) →
    ∃ cur', (w.setCells b o vs).heap[b]? = some (.cells cur' t (0, 0)) ∧ cur'.size = cur.size
  | [], _, w, cur, t, h => ⟨cur, h, rfl⟩
  | v :: r, o, w, cur, t, h => by
    have h1 := heap_setCell_same w b o cur t v h
    obtain ⟨cur', h2, h3⟩ := setCells_block b r (o + 1) _ _ t h1
    exact ⟨cur', h2, by rw [h3]; simp⟩
theorem setCells_size (b : Nat) : ∀ (vs : List Value) (o : Nat) (w : World), (w.setCells b o vs).heap.size = w.heap.size
  | [], _, _ => rfl
  | v :: r, o, w => by rw [World.setCells, setCells_size b r]; simp
theorem setCells_other (b k : Nat) (hk : k ≠ b) : ∀ (vs : List Value) (o : Nat) (w : World), (w.setCells b o vs).heap[k]? = w.heap[k]?
  | [], _, _ => rfl
  | v :: r, o, w => by rw [World.setCells, setCells_other b k hk r]; exact Below.heap_setCell _ _ _ _ hk
theorem setCells_rest (b : Nat) : ∀ (vs : List Value) (o : Nat) (w : World), (w.setCells b o vs).os = w.os ∧ (w.setCells b o vs).tape = w.tape ∧ (w.setCells b o vs).output = w.output
  | [], _, _ => ⟨rfl, rfl, rfl⟩
  | v :: r, o, w => by rw [World.setCells]; exact setCells_rest b r (o + 1) _
end


/-- Code points behind a list of numbers. -/
theorem part_append {w : World} {base : Nat} {p : PartM} (hp : PartAt w base p) (hb : base ≤ w.heap.size) (ty : TypeId) (a : Option Addr) (l : List Int) (c : Nat) (hl : NumsIn w a l) (hm : p.xs.length + l.length ≤ 1000000000) :
    ∃ p' w', (Builtin.append_ #[77, 77] ty #[p.val, .slice a l.length c]).run Try.prog w = .ok p'.val w' ∧ PartAt w' base p' ∧ p'.xs = p.xs ++ l ∧ w.grownBy w' p.own ∧ (p'.own = p.own ∨ p'.own = some w.heap.size) ∧ (p.xs.length + l.length ≤ p.cap → p'.own = p.own ∧ p'.cap = p.cap) ∧ (p.cap < p.xs.length + l.length → Below w.heap.size w w' ∧ p'.own = some w.heap.size) := by
  obtain ⟨i0, hi0, hz0, hz1, hz2⟩ := info_parts Try.info3
  have hu : Try.prog.underlying 77 = some (.slice 3) := by kernel_rfl
  have hs := hl.src hu c
  have hmo := hp.most
  by_cases hroom : p.xs.length + l.length ≤ p.cap
  · rcases hp.lies with h0 | ⟨g, off, cur, ha, hbb, hg, hsz, hcs⟩
    · obtain ⟨pa, pc, pxs⟩ := p
      simp only at h0 hroom
      subst h0
      obtain rfl : pxs = [] := List.eq_nil_of_length_eq_zero (by omega)
      obtain rfl : l = [] := List.eq_nil_of_length_eq_zero (by simp at hroom; simp [hroom])
      refine ⟨⟨pa, 0, []⟩, w, ?_, hp, rfl, ⟨rfl, rfl, rfl, Nat.le_refl _, fun _ _ _ => rfl⟩, .inl rfl, fun _ => ⟨rfl, rfl⟩, fun h => absurd h (by simp)⟩
      have := run_append_nothing (P := Try.prog) w 77 77 ty 3 i0 hu hi0 pa 0 0 (Nat.le_refl _) (.slice a 0 c) (by rw [hz1]; exact hs)
      exact this
    · have hcell : ∀ j, j < p.cap → w.cell? ⟨g, off + j, none⟩ = cur[off + j]? := fun j _ => cell_of_row w g (off + j) cur 3 (0, 0) hg
      have hin : ∀ j, j < l.length → (w.cell? ⟨g, off + p.xs.length + j, none⟩).isSome = true := by
        intro j hj
        rw [Nat.add_assoc, hcell _ (by omega), Array.getElem?_eq_getElem (by omega)]
        rfl
      have hfr : ∀ j, w.frozen? ⟨g, j, none⟩ = false := fun j => by simp [World.frozen?, hg]
      have hr := run_append_room_src (P := Try.prog) w 77 77 ty 3 i0 hu hi0 g off p.xs.length p.cap _ l.length (numsV l) (by rw [hz1]; exact hs) hroom
        (by rw [hz1, numsV_len, Nat.mul_one]; exact hin) (by intro j _; exact hfr _)
      rw [hz1, Nat.mul_one] at hr
      refine ⟨⟨p.a, p.cap, p.xs ++ l⟩, w.setCells g (off + p.xs.length) (numsV l), ?_, ⟨by simpa using hroom, hmo, .inr ?_⟩, rfl, ?_, .inl rfl, fun _ => ⟨rfl, rfl⟩, fun h => absurd h (by omega)⟩
      · unfold PartM.val
        simp only [List.length_append]
        rw [ha]
        exact hr
      · obtain ⟨cur', h1, h2⟩ := setCells_block g (numsV l) (off + p.xs.length) w cur 3 hg
        refine ⟨g, off, cur', ha, hbb, h1, by rw [h2]; exact hsz, fun j x hj => ?_⟩
        rw [← cell_of_row _ g (off + j) cur' 3 (0, 0) h1]
        by_cases hjl : j < p.xs.length
        · rw [World.cell?_setCells_out g _ _ _ _ (fun _ _ => .inl (by simp; omega)), cell_of_row w g (off + j) cur 3 (0, 0) hg]
          simp only at hj
          rw [List.getElem?_append_left hjl] at hj
          exact hcs j x hj
        · simp only at hj
          rw [List.getElem?_append_right (by omega)] at hj
          have hlt := (List.getElem?_eq_some_iff.1 hj).1
          have := World.cell?_setCells_in g (numsV l) (off + p.xs.length) w (by rw [numsV_len]; exact hin) (j - p.xs.length) (by rw [numsV_len]; exact hlt)
          rw [show off + p.xs.length + (j - p.xs.length) = off + j by omega] at this
          rw [this]
          have h9 := numsV_at hj
          rw [List.getElem?_eq_getElem (by rw [numsV_len]; exact hlt)] at h9
          exact h9
      · obtain ⟨r1, r2, r3⟩ := setCells_rest g (numsV l) (off + p.xs.length) w
        by_cases hz : p.cap = 0
        · obtain rfl : l = [] := List.eq_nil_of_length_eq_zero (by omega)
          exact ⟨rfl, rfl, rfl, Nat.le_refl _, fun _ _ _ => rfl⟩
        · have ho : p.own = some g := by unfold PartM.own; rw [if_neg hz, ha]; rfl
          rw [ho]
          exact ⟨r1, r2, r3, by rw [setCells_size]; exact Nat.le_refl _, fun k _ hk => setCells_other g k (fun e => hk (by rw [e])) _ _ _⟩
  · have hold : (Builtin.firstCells i0.size p.xs.length (.slice p.a p.xs.length p.cap)).run Try.prog w.drew = .ok (numsV p.xs).toArray w.drew := by
      rw [hz1]
      exact ((hp.nums).src hu p.cap).cellsD
    have hr := run_append_grow_src (P := Try.prog) w 77 77 ty 3 i0 (.int .i64 0) hu hi0 hz0 p.a p.xs.length p.cap (numsV p.xs) hold _ l.length (numsV l) (by rw [hz1]; exact hs) (by omega) (by omega)
      (growslice_fits (by omega) (by rw [hz2]; omega))
    have hge := grownCap_ge w (p.xs.length + l.length) p.cap 3
    have hle := grownCap_le_maxLen w (p.xs.length + l.length) p.cap 3 (by unfold maxLen; omega)
    refine ⟨⟨some ⟨w.heap.size, 0, none⟩, grownCap w (p.xs.length + l.length) p.cap 3, p.xs ++ l⟩, w.drew.alloc (.cells ((numsV p.xs ++ numsV l).toArray ++ Builtin.zeroCells (Value.int .i64 0).cells (grownCap w (p.xs.length + l.length) p.cap 3 - (p.xs.length + l.length))) 3), ?_, ⟨by simpa using hge, hle, .inr ⟨w.heap.size, 0, _, rfl, hb, heap_alloc_new w.drew _, ?_, ?_⟩⟩, rfl, ?_, .inr ?_, fun h => absurd h hroom, fun _ => ⟨((Below.refl _ w).drew).alloc (by simp) _, ?_⟩⟩
    · unfold PartM.val
      simp only [List.length_append]
      exact hr
    · simp only [Array.size_append, List.size_toArray, size_zeroCells, List.length_append, numsV_len]
      simp [Value.cells]
      omega
    · intro j x hj
      simp only at hj
      have hlt := (List.getElem?_eq_some_iff.1 hj).1
      rw [Nat.zero_add, Array.getElem?_append_left (by simp only [List.size_toArray, List.length_append, numsV_len] at hlt ⊢; exact hlt)]
      simp only [List.getElem?_toArray]
      have : numsV p.xs ++ numsV l = numsV (p.xs ++ l) := by simp [numsV]
      rw [this]
      exact numsV_at hj
    · exact ⟨rfl, rfl, rfl, by simp, fun k hk _ => heap_alloc_old w.drew _ hk⟩
    · unfold PartM.own
      rw [if_neg (by simp only; omega)]
      rfl
    · unfold PartM.own
      rw [if_neg (by simp only; omega)]
      rfl

theorem wpList_part_append {w : World} {base : Nat} {p : PartM} {ops : Array Oper} {rest : List Oper} {o : Oper} {act : Act} {Q : Exit → Act → World → Prop} (hgd : o.guard = none) (s x : Operand)
    (ho : o.op = .call { callee := .builtin .append, args := #[s, x], argTypes := #[77, 77] }) (hs : act.eval s = p.val) (a : Option Addr) (l : List Int) (c : Nat) (hx : act.eval x = .slice a l.length c)
    (hp : PartAt w base p) (hb : base ≤ w.heap.size) (hl : NumsIn w a l) (hm : p.xs.length + l.length ≤ 1000000000)
    (h : ∀ p' w', PartAt w' base p' → p'.xs = p.xs ++ l → w.grownBy w' p.own → (p'.own = p.own ∨ p'.own = some w.heap.size) → (p.xs.length + l.length ≤ p.cap → p'.own = p.own ∧ p'.cap = p.cap) → wpList Try.prog ops Q rest (act.put o.dst p'.val) w') :
    wpList Try.prog ops Q (o :: rest) act w := by
  obtain ⟨p', w', hr, h1, h2, h3, h4, h5, _⟩ := part_append hp hb o.type a l c hl hm
  exact Lib.wpList_append_run w hgd s x 77 77 ho _ _ hs hx _ _ hr (h p' w' h1 h2 h3 h4 h5)

/-- Where there is no room. -/
theorem wpList_part_full {w : World} {base : Nat} {p : PartM} {ops : Array Oper} {rest : List Oper} {o : Oper} {act : Act} {Q : Exit → Act → World → Prop} (hgd : o.guard = none) (s x : Operand)
    (ho : o.op = .call { callee := .builtin .append, args := #[s, x], argTypes := #[77, 77] }) (hs : act.eval s = p.val) (a : Option Addr) (l : List Int) (n c : Nat) (hn : l.length = n) (hx : act.eval x = .slice a n c)
    (hp : PartAt w base p) (hb : base ≤ w.heap.size) (hl : NumsIn w a l) (hm : p.xs.length + l.length ≤ 1000000000) (hf : p.cap < p.xs.length + l.length)
    (h : ∀ p' w', PartAt w' base p' → p'.xs = p.xs ++ l → Below w.heap.size w w' → p'.own = some w.heap.size → wpList Try.prog ops Q rest (act.put o.dst p'.val) w') :
    wpList Try.prog ops Q (o :: rest) act w := by
  subst hn
  obtain ⟨p', w', hr, h1, h2, h3, h4, h5, h6⟩ := part_append hp hb o.type a l c hl hm
  exact Lib.wpList_append_run w hgd s x 77 77 ho _ _ hs hx _ _ hr (h p' w' h1 h2 (h6 hf).1 (h6 hf).2)

theorem one_num (w : World) (c : Int) : NumsIn (w.alloc (.cells #[.int .i64 c] 3)) (some ⟨w.heap.size, 0, none⟩) [c] := by
  intro i x hi
  match i, hi with
  | 0, hi => simp at hi; subst hi; exact ⟨_, _, rfl, cell_of_one (heap_alloc_new w _)⟩

/-- Whatever the room is, its cells can be read. -/
theorem PartAt.cellsAll {w : World} {base : Nat} {p : PartM} (h : PartAt w base p) (hc : 0 < p.cap) : ∃ g off cur, p.a = some ⟨g, off, none⟩ ∧ base ≤ g ∧ w.heap[g]? = some (.cells cur 3 (0, 0)) ∧ off + p.cap ≤ cur.size ∧ (∀ j x, p.xs[j]? = some x → cur[off + j]? = some (.int .i64 x)) := by
  rcases h.lies with h0 | h
  · omega
  · exact h
end Go.Proofs.Ytmllhebmaldgfaa
/-
  A pile of package stack in memory, and its methods.
-/
namespace Go.Proofs.Ytmllhebmaldgfaa
open Go.RowKit

theorem setCell_far (w : World) (a : Addr) (v : Value) {k : Nat} (h : k ≠ a.block) : (w.setCell a v).heap[k]? = w.heap[k]? := Below.heap_setCell _ _ _ _ h

/-- A pile at block b. -/
structure PileAt (w : World) (base b : Nat) (p : PartM) : Prop where
  box : w.heap[b]? = some (.cells #[p.val] 79 (0, 0))
  part : PartAt w base p
  lo : base ≤ b

/-- Its blocks. -/
def footP (b : Nat) (p : PartM) (k : Nat) : Prop := k = b ∨ p.own = some k

section
variable {w w' w1 : World} {base b : Nat} {p p' : PartM}
theorem PileAt.cell (h : PileAt w base b p) : w.cell? ⟨b, 0, none⟩ = some p.val := cell_of_one h.box
theorem PileAt.free (h : PileAt w base b p) : w.frozen? ⟨b, 0, none⟩ = false := free_of_one h.box
theorem PileAt.lt (h : PileAt w base b p) : b < w.heap.size := lt_of_block h.box
theorem PileAt.ne (h : PileAt w base b p) : p.own ≠ some b := by
  intro e
  obtain ⟨_, _, cu, hc⟩ := h.part.own_lt e
  rw [h.box] at hc
  cases hc
theorem PileAt.foot_lt (h : PileAt w base b p) {k : Nat} (hk : footP b p k) : base ≤ k ∧ k < w.heap.size := by
  rcases hk with rfl | hk
  · exact ⟨h.lo, h.lt⟩
  · have := h.part.own_lt hk
    exact ⟨this.1, this.2.1⟩
theorem PileAt.mod {F : Nat → Prop} (h : PileAt w base b p) (hm : Mod F w w') (hF : ∀ k, footP b p k → ¬ F k) : PileAt w' base b p :=
  ⟨(hm.block b h.lt (hF b (.inl rfl))).trans h.box, h.part.mod hm (fun k hk => hF k (.inr hk)), h.lo⟩
theorem PileAt.below (h : PileAt w base b p) (hb : Below w.heap.size w w') : PileAt w' base b p := h.mod (Mod.of_below (F := fun _ => False) hb) (fun _ _ e => e)
/-- Another list: its block was written, or it has a new one. -/
theorem PileAt.set (h : PileAt w base b p) (hm : Mod (fun k => p.own = some k) w w1) (hp : PartAt w1 base p') : PileAt (w1.setCell ⟨b, 0, none⟩ p'.val) base b p' ∧ Mod (footP b p) w (w1.setCell ⟨b, 0, none⟩ p'.val) := by
  have hb1 : w1.heap[b]? = _ := (hm.block b h.lt h.ne).trans h.box
  refine ⟨⟨?_, hp.kept (fun k hk => setCell_far _ _ _ (fun e => ?_)), h.lo⟩, (hm.mono (fun _ _ hk => .inr hk)).trans (Mod.setCell _ _ _ (.inl rfl))⟩
  · have := heap_setCell_same w1 b 0 #[p.val] 79 p'.val hb1
    simpa using this
  · simp only at e
    subst e
    obtain ⟨_, _, cu, hc⟩ := hp.own_lt hk
    rw [hb1] at hc
    cases hc
end

/-- What a method made of a pile. -/
def UpdP (w w' : World) (base b : Nat) (p : PartM) (L : List Int) : Prop := ∃ p', PileAt w' base b p' ∧ p'.xs = L ∧ Mod (footP b p) w w' ∧ ∀ k, footP b p' k → footP b p k ∨ w.heap.size ≤ k

section
variable {w : World} {base b : Nat} {p : PartM}

theorem size_any (h : PileAt w base b p) : Calls Try.prog 70 #[.pointer (some ⟨b, 0, none⟩)] w fun e w' => e = .returned (.int .i64 p.xs.length) ∧ w = w' := by
  have hc := h.cell
  unfold PartM.val at hc
  clear h
  go_enter Try.func70, Try.ntmps70
  go_wp2
  go_ret
  exact ⟨rfl, rfl⟩

theorem at_any (h : PileAt w base b p) (i : Nat) (x : Int) (hi : p.xs[i]? = some x) : Calls Try.prog 112 #[.pointer (some ⟨b, 0, none⟩), .int .i64 i] w fun e w' => e = .returned (.int .i64 x) ∧ w = w' := by
  have hc := h.cell
  unfold PartM.val at hc
  have hlt := (List.getElem?_eq_some_iff.1 hi).1
  obtain ⟨g, off, ha, hg⟩ := h.part.nums i x hi
  rw [ha] at hc
  have hz : (i : Int) < (p.xs.length : Int) := by omega
  generalize p.xs.length = n at *
  clear h hi ha
  go_enter Try.func112, Try.ntmps112
  go_wp2
  go_ret
  exact ⟨rfl, rfl⟩

/-- r is where x stands in L. -/
def FindR (L : List Int) (x r : Int) : Prop := (r = -1 ∧ x ∉ L) ∨ ∃ j : Nat, r = (j : Int) ∧ L[j]? = some x

set_option maxHeartbeats 1000000 in
theorem index_any (w : World) (a : Option Addr) (L : List Int) (cap : Nat) (hin : NumsIn w a L) (hl : L.length ≤ 100000) (x : Int) :
    Calls Try.prog 111 #[.slice a L.length cap, .int .i64 x] w fun e w' => (∃ r, e = .returned (.int .i64 r) ∧ FindR L x r) ∧ w = w' := by
  have HIN := hide hin
  have hlz : (L.length : Int) ≤ 100000 := by omega
  clear hin hl
  go_enter Try.func111, Try.ntmps111
  go_wp2
  go_loopg [5, 8] L.length (fun g _ s8 wr => ∃ j : Nat, j + g = L.length ∧ s8 = .int .i64 j ∧ wr = w ∧ (∀ i s, i < j → L[i]? = some s → s ≠ x))
  case atStart => exact ⟨0, by omega, rfl, rfl, fun i s hi => absurd hi (Nat.not_lt_zero _)⟩
  case round =>
    obtain ⟨j, hjg, rfl, rfl, hno⟩ := hrel
    have HN := hide hno
    clear hno
    by_cases hj : j < L.length
    · have hjz : (j : Int) < (L.length : Int) := by omega
      obtain ⟨y, hy⟩ : ∃ y, L[j]? = some y := ⟨_, List.getElem?_eq_getElem hj⟩
      obtain ⟨g, off, rfl, hcell⟩ := (unhide HIN) j y hy
      have HY := hide hy
      clear hy
      cases hq : (x == y) with
      | true =>
        have HQ := hide hq
        go_wp2
        go_ret
        refine ⟨⟨_, rfl, .inr ⟨j, rfl, ?_⟩⟩, rfl⟩
        rw [unhide HY]
        have := unhide HQ
        simp at this
        rw [this]
      | false =>
        have HQ := hide hq
        go_wp2
        go_roundg (gk - 1)
        case measure => omega
        case rel =>
          refine ⟨j + 1, by omega, by go_num, rfl, fun i s hi hs => ?_⟩
          by_cases e : i = j
          · subst e; rw [unhide HY] at hs; cases hs
            have := unhide HQ
            simp at this
            exact fun e => this e.symm
          · exact (unhide HN) i s (by omega) hs
    · have hjz : ¬ (j : Int) < (L.length : Int) := by omega
      obtain rfl : j = L.length := by omega
      go_wp2
      go_ret
      refine ⟨⟨_, rfl, .inl ⟨rfl, fun hm => ?_⟩⟩, rfl⟩
      obtain ⟨i, hi⟩ := List.getElem?_of_mem hm
      exact (unhide HN) i x (List.getElem?_eq_some_iff.1 hi).1 hi rfl

theorem place_any (h : PileAt w base b p) (hl : p.xs.length ≤ 100000) (x : Int) : Calls Try.prog 56 #[.pointer (some ⟨b, 0, none⟩), .int .i64 x] w fun e w' => (∃ r, e = .returned (.int .i64 r) ∧ FindR p.xs x r) ∧ w = w' := by
  have hc := h.cell
  have HI := hide (index_any w p.a p.xs p.cap h.part.nums hl x)
  unfold PartM.val at hc
  clear h hl
  go_enter Try.func56, Try.ntmps56
  go_wp2_with (go_at_call 111; refine (unhide HI).mono ?_; rintro e w' ⟨⟨r, rfl, hr⟩, rfl⟩)
  go_ret
  exact ⟨⟨r, rfl, hr⟩, rfl⟩

set_option maxHeartbeats 1000000 in
theorem push_any (h : PileAt w base b p) (hl : p.xs.length ≤ 100000) (x : Int) : Calls Try.prog 64 #[.pointer (some ⟨b, 0, none⟩), .int .i64 x] w fun e w' => e = .returned (.tuple #[]) ∧ UpdP w w' base b p (p.xs ++ [x]) := by
  have hc := h.cell
  have hf := h.free
  have hlt := h.lt
  have hne := h.ne
  have HH := hide h
  have HL := hide hl
  clear h hl
  go_enter Try.func64, Try.ntmps64
  go_wp2_with (at_builtin; go_must (refine wpList_part_append (base := base) (p := p) (by rfl) _ _ (by rfl) (by rfl) (some ⟨w.heap.size, 0, none⟩) [x] 1 (by rfl) (by exact (unhide HH).part.below ((Below.refl _ _).alloc (Nat.le_refl _) _)) (by have := (unhide HH).lo; simp; omega) (by exact one_num w x) (by have := unhide HL; simp; omega) ?_); intro q' w3 g1 g2 g3 g4 g5; have HN1 := hide g1; have HN2 := hide g2; have HN3 := hide g3; have HN4 := hide g4; have hc3 : w3.cell? ⟨b, 0, none⟩ = some p.val := ((g3.cell_far ⟨b, 0, none⟩ (by simp; omega) (by intro e; first | exact hne e | exact hne e.symm)).trans (((Below.refl w.heap.size w).alloc (Nat.le_refl _) _).cell hlt |>.trans hc)); have hf3 : w3.frozen? ⟨b, 0, none⟩ = false := ((g3.frozen_far ⟨b, 0, none⟩ (by simp; omega) (by intro e; first | exact hne e | exact hne e.symm)).trans (((Below.refl w.heap.size w).alloc (Nat.le_refl _) _).frozen hlt |>.trans hf)); clear g1 g2 g3 g4 g5; obtain ⟨qa, qc, qx⟩ := q'; simp only [PartM.val])
  all_goals go_end0
  all_goals
    have B1 := (Below.refl w.heap.size w).alloc (Nat.le_refl _) (.cells #[.int .i64 x] 3)
    have M1 : Mod (fun k => p.own = some k) w w3 := (Mod.of_below B1).trans (Mod.grown (unhide HN3) (fun k hk => hk))
    obtain ⟨R1, R2⟩ := (unhide HH).set M1 (unhide HN1)
    refine ⟨rfl, _, R1, unhide HN2, R2, ?_⟩
    rintro k (rfl | hk)
    · exact .inl (.inl rfl)
    · rcases unhide HN4 with e | e
      · exact .inl (.inr (by rw [← e]; exact hk))
      · rw [e] at hk
        simp at hk
        exact .inr (by omega)

theorem PartAt.cut (h : PartAt w base p) (n : Nat) (hn : n ≤ p.xs.length) : PartAt w base ⟨p.a, p.cap, p.xs.take n⟩ := by
  have hl := h.len
  refine ⟨by simp; omega, h.most, h.lies.imp id ?_⟩
  rintro ⟨g, off, cur, ha, hb, hg, hs, hc⟩
  refine ⟨g, off, cur, ha, hb, hg, hs, fun j x hj => ?_⟩
  simp only at hj
  rw [List.getElem?_take] at hj
  split at hj
  · exact hc j x hj
  · cases hj

set_option maxHeartbeats 1000000 in
theorem cut_any (h : PileAt w base b p) (hl : p.xs.length ≤ 100000) (n : Nat) (hn : n ≤ p.xs.length) : Calls Try.prog 69 #[.pointer (some ⟨b, 0, none⟩), .int .i64 n] w fun e w' => e = .returned (.tuple #[]) ∧ UpdP w w' base b p (p.xs.take n) := by
  have hc := h.cell
  have hf := h.free
  have hcap := h.part.len
  have hmost := h.part.most
  have HH := hide h
  have hmin : min n p.xs.length = n := by omega
  have HM := hide hmin
  unfold PartM.val at hc
  unfold maxLen at hmost
  have HP := hide (h.part.cut n hn)
  have e0 : (PartM.mk p.a p.cap (p.xs.take n)).val = .slice p.a n p.cap := by unfold PartM.val; simp [hmin]
  have HE := hide e0
  have hnz : (n : Int) ≤ (p.cap : Int) := by omega
  have R := h.set (Mod.refl _ w) (h.part.cut n hn)
  rw [e0] at R
  have HR := hide R
  obtain ⟨pa, pc, px⟩ := p
  simp only at *
  generalize px.length = m at *
  clear h e0 hmin R
  cases pa with
  | none =>
    go_enter Try.func69, Try.ntmps69
    go_wp2
    go_end0
    exact ⟨rfl, _, (unhide HR).1, rfl, (unhide HR).2, fun k hk => .inl hk⟩
  | some ad =>
    go_enter Try.func69, Try.ntmps69
    go_wp2
    go_end0
    exact ⟨rfl, _, (unhide HR).1, rfl, (unhide HR).2, fun k hk => .inl hk⟩
end
end Go.Proofs.Ytmllhebmaldgfaa
/-
  A pile of package stack: an item swapped, put in and taken out.
-/
namespace Go.Proofs.Ytmllhebmaldgfaa
open Go.RowKit

section
variable {w : World} {base b : Nat} {p : PartM}

theorem PartAt.put {g off : Nat} (h : PartAt w base p) (ha : p.a = some ⟨g, off, none⟩) (i : Nat) (hi : i < p.xs.length) (x : Int) : PartAt (w.setCell ⟨g, off + i, none⟩ (.int .i64 x)) base ⟨p.a, p.cap, p.xs.set i x⟩ := by
  have hl := h.len
  refine ⟨by simpa using hl, h.most, ?_⟩
  obtain ⟨g', off', cur, ha', hb, hg, hs, hc⟩ := h.cellsAll (by omega)
  rw [ha] at ha'
  cases ha'
  refine .inr ⟨g, off, _, ha, hb, heap_setCell_same w g (off + i) cur 3 (.int .i64 x) hg, by simpa using hs, fun j y hj => ?_⟩
  simp only at hj
  by_cases e : i = j
  · subst e
    rw [List.getElem?_set_self hi] at hj
    cases hj
    rw [Array.getElem?_setIfInBounds_self_of_lt (by omega)]
  · rw [List.getElem?_set_ne e] at hj
    have := hc j y hj
    rw [Array.getElem?_setIfInBounds_ne (by omega)]
    exact this

set_option maxHeartbeats 1000000 in
theorem swap_any (h : PileAt w base b p) (i : Nat) (hi : i < p.xs.length) (x : Int) : Calls Try.prog 102 #[.pointer (some ⟨b, 0, none⟩), .int .i64 i, .int .i64 x] w fun e w' => e = .returned (.tuple #[]) ∧ UpdP w w' base b p (p.xs.set i x) := by
  have hc := h.cell
  have HH := hide h
  have HI := hide hi
  obtain ⟨g, off, ha, hg⟩ := h.part.nums i _ (List.getElem?_eq_getElem hi)
  have hfz : w.frozen? ⟨g, off + i, none⟩ = false := by
    obtain ⟨g', off', cur, ha', hb, hg', hs, hcc⟩ := h.part.cellsAll (by have := h.part.len; omega)
    rw [ha] at ha'
    cases ha'
    simp [World.frozen?, hg']
  have own : p.own = some g := by
    unfold PartM.own
    rw [if_neg (by have := h.part.len; omega), ha]
    rfl
  have hne : g ≠ b := by
    intro e
    exact h.ne (by rw [own, e])
  have R : PileAt (w.setCell ⟨g, off + i, none⟩ (.int .i64 x)) base b ⟨p.a, p.cap, p.xs.set i x⟩ := by
    refine ⟨?_, h.part.put ha i hi x, h.lo⟩
    rw [setCell_far _ _ _ (fun e => hne e.symm), h.box]
    unfold PartM.val
    simp
  have HR := hide R
  have HO := hide own
  have hz : (i : Int) < (p.xs.length : Int) := by omega
  unfold PartM.val at hc
  rw [ha] at hc
  generalize p.xs[i] = y at hg
  generalize p.xs.length = n at *
  clear h R own hi
  go_enter Try.func102, Try.ntmps102
  go_wp2
  go_end0
  refine ⟨rfl, _, unhide HR, rfl, Mod.setCell _ _ _ (.inr (unhide HO)), ?_⟩
  rintro k (hk | hk)
  · exact .inl (.inl hk)
  · exact .inl (.inr hk)

theorem below_dn {B : Nat} {a w : World} (h : Below B a w) (n : Nat) : Below B a (w.drewN n) := ⟨h.os, h.tape, h.output, h.size, h.block⟩

/-- What is below a place, and the rest. -/
def lowP (p : PartM) (i : Nat) : PartM := ⟨p.a, i, p.xs.take i⟩
def RestIs (w : World) (v : Value) (L : List Int) : Prop := ∃ a c, v = .slice a L.length c ∧ NumsIn w a L ∧ L.length ≤ c ∧ c ≤ maxLen
theorem rest_mk {a : Option Addr} {n c : Nat} {L : List Int} (h : L.length = n) (hN : NumsIn w a L) (hc : n ≤ c) (hm : c ≤ maxLen) : RestIs w (.slice a n c) L := ⟨a, c, by rw [h], hN, by omega, hm⟩

set_option maxHeartbeats 2000000 in
theorem parts_any (h : PileAt w base b p) (i : Nat) (hi : i ≤ p.xs.length) : Calls Try.prog 125 #[.pointer (some ⟨b, 0, none⟩), .int .i64 i] w fun e w' =>
    (∃ v, e = .returned (.tuple #[(lowP p i).val, v]) ∧ RestIs w v (p.xs.drop i)) ∧ Below w.heap.size w w' := by
  have hc := h.cell
  have hlen := h.part.len
  have hnone : p.a = none → p.cap = 0 := by
    intro e
    rcases h.part.lies with h0 | ⟨g, off, cur, ha, _⟩
    · exact h0
    · rw [e] at ha; cases ha
  have HN : Hid (NumsIn w p.a p.xs) := hide h.part.nums
  have hcap : (p.xs.length : Int) ≤ (p.cap : Int) := by omega
  have hiz : (i : Int) ≤ (p.xs.length : Int) := by omega
  have hiz2 : (i : Int) ≤ (p.cap : Int) := by omega
  have hm : min i p.xs.length = i := by omega
  have hmost := h.part.most
  have e1 : (lowP p i).val = .slice p.a i i := by unfold lowP PartM.val; simp [hm]
  rw [e1]
  unfold PartM.val at hc
  unfold maxLen at hmost
  obtain ⟨pa, pc, px⟩ := p
  simp only at *
  have HL : Hid (∀ ad, pa = some ad → NumsIn w (if pc = i then some ad else some (ad.add i)) (px.drop i)) := hide (by
    rintro ad rfl
    by_cases e : pc = i
    · rw [if_pos e]
      intro j x hj
      rw [List.drop_of_length_le (by omega)] at hj
      simp at hj
    · rw [if_neg e]
      obtain ⟨g, off, cur, ha, _⟩ := h.part.cellsAll (by simp only; omega)
      simp only [Option.some.injEq] at ha
      subst ha
      rw [add_at]
      exact (unhide HN).drop i)
  have HZ : Hid (px.length ≤ i → ∀ a, NumsIn w a (px.drop i)) := hide (by
    intro e a j x hj
    rw [List.drop_of_length_le (by omega)] at hj
    simp at hj)
  generalize hnl : px.length = n at *
  have HNL := hide hnl
  clear h e1 hm hnl
  cases pa with
  | none =>
    have h0 : pc = 0 := hnone rfl
    subst h0
    obtain rfl : n = 0 := by omega
    obtain rfl : i = 0 := by omega
    go_enter Try.func125, Try.ntmps125
    go_wp2_with fail
    go_quiet (fail)
    all_goals go_wp2
    all_goals go_ret2
    all_goals exact ⟨⟨_, rfl, rest_mk (by rw [List.length_drop, unhide HNL]) (unhide HZ (Nat.le_refl _) _) (by omega) (by unfold maxLen; omega)⟩, below_dn (Below.refl _ w) _⟩
  | some ad =>
    clear hnone
    go_enter Try.func125, Try.ntmps125
    go_wp2_with fail
    go_quiet (fail)
    all_goals go_wp2
    all_goals go_ret2
    all_goals
      have q := (unhide HL) _ rfl
      first | rw [if_pos (by assumption)] at q | rw [if_neg (by assumption)] at q
      exact ⟨⟨_, rfl, rest_mk (by rw [List.length_drop, unhide HNL]) q (by omega) (by unfold maxLen; omega)⟩, below_dn (Below.refl _ w) _⟩
end
end Go.Proofs.Ytmllhebmaldgfaa
/-
  A pile of package stack: an item put in, an item taken out.
-/
namespace Go.Proofs.Ytmllhebmaldgfaa
open Go.RowKit

section
variable {w : World} {base b : Nat} {p : PartM}

theorem PartAt.low (h : PartAt w base p) (i : Nat) (hi : i ≤ p.xs.length) : PartAt w base (lowP p i) := by
  have hl := h.len
  have hm := h.most
  refine ⟨by simp [lowP]; omega, by simp only [lowP]; omega, ?_⟩
  by_cases e : i = 0
  · exact .inl e
  · obtain ⟨g, off, cur, ha, hb, hg, hs, hc⟩ := h.cellsAll (by omega)
    refine .inr ⟨g, off, cur, ha, hb, hg, by simp only [lowP]; omega, fun j x hj => ?_⟩
    simp only [lowP] at hj
    rw [List.getElem?_take] at hj
    split at hj
    · exact hc j x hj
    · cases hj
theorem low_own (h : PartAt w base p) (i : Nat) (hi : i ≤ p.xs.length) {k : Nat} (hk : (lowP p i).own = some k) : p.own = some k := by
  have hl := h.len
  unfold PartM.own lowP at hk
  unfold PartM.own
  simp only at hk
  split at hk
  · cases hk
  · rw [if_neg (by omega)]; exact hk
theorem low_len (i : Nat) (hi : i ≤ p.xs.length) : (lowP p i).xs.length = i := by simp [lowP]; omega
theorem RestIs.below {w' : World} {v : Value} {L : List Int} (h : RestIs w v L) (hb : Below w.heap.size w w') : RestIs w' v L := by
  obtain ⟨a, c, e, h1, h2⟩ := h
  exact ⟨a, c, e, h1.below hb, h2⟩

/-- A rest of at least one item, and what is behind its first. -/
theorem RestIs.open {v : Value} {L : List Int} (h : RestIs w v L) {m : Nat} (hL : L.length = m) (hm : 1 ≤ m) : ∃ g off c, v = .slice (some ⟨g, off, none⟩) m c ∧ m ≤ c ∧ c ≤ maxLen ∧ (L.drop 1).length = m - 1 ∧ (c = 1 → ∀ a, NumsIn w a (L.drop 1)) ∧ NumsIn w (some ⟨g, off + 1, none⟩) (L.drop 1) := by
  obtain ⟨a, c, rfl, hN, h1, h2⟩ := h
  obtain ⟨g, off, rfl, _⟩ := hN 0 _ (List.getElem?_eq_getElem (by omega))
  refine ⟨g, off, c, by rw [hL], by omega, h2, by simp; omega, fun e a j x hj => ?_, hN.drop 1⟩
  rw [List.drop_of_length_le (by omega)] at hj
  simp at hj

theorem wpList_part_n {ops : Array Oper} {rest : List Oper} {o : Oper} {act : Act} {Q : Exit → Act → World → Prop} (hgd : o.guard = none) (s x : Operand)
    (ho : o.op = .call { callee := .builtin .append, args := #[s, x], argTypes := #[77, 77] }) (hs : act.eval s = p.val) (a : Option Addr) (l : List Int) (n c : Nat) (hn : l.length = n) (hx : act.eval x = .slice a n c)
    (hp : PartAt w base p) (hb : base ≤ w.heap.size) (hl : NumsIn w a l) (hm : p.xs.length + l.length ≤ 1000000000)
    (h : ∀ p' w', PartAt w' base p' → p'.xs = p.xs ++ l → w.grownBy w' p.own → (p'.own = p.own ∨ p'.own = some w.heap.size) → wpList Try.prog ops Q rest (act.put o.dst p'.val) w') :
    wpList Try.prog ops Q (o :: rest) act w := by
  subst hn
  exact wpList_part_append hgd s x ho hs a l c hx hp hb hl hm (fun p' w' h1 h2 h3 h4 _ => h p' w' h1 h2 h3 h4)

/-- A pile whose list became another one. -/
theorem PileAt.done {w3 : World} {q : PartM} {L : List Int} (h : PileAt w base b p) (hm : Mod (fun k => p.own = some k) w w3) (hq : PartAt w3 base q) (hx : q.xs = L) (ho : ∀ k, q.own = some k → p.own = some k ∨ w.heap.size ≤ k) :
    UpdP w (w3.setCell ⟨b, 0, none⟩ q.val) base b p L := by
  obtain ⟨R1, R2⟩ := h.set hm hq
  refine ⟨q, R1, hx, R2, ?_⟩
  rintro k (rfl | hk)
  · exact .inl (.inl rfl)
  · exact (ho k hk).imp .inr id
/-- The pile's own cell where only its list's block was written. -/
theorem PileAt.cellM {w3 : World} (h : PileAt w base b p) (hm : Mod (fun k => p.own = some k) w w3) : w3.cell? ⟨b, 0, none⟩ = some p.val ∧ w3.frozen? ⟨b, 0, none⟩ = false := by
  have e : w3.heap[b]? = _ := (hm.block b h.lt h.ne).trans h.box
  exact ⟨cell_of_one e, free_of_one e⟩

set_option maxHeartbeats 2000000 in
theorem remove_any (h : PileAt w base b p) (hl : p.xs.length ≤ 100000) (i : Nat) (hi : i < p.xs.length) : Calls Try.prog 100 #[.pointer (some ⟨b, 0, none⟩), .int .i64 i] w fun e w' => e = .returned (.tuple #[]) ∧ UpdP w w' base b p (p.xs.take i ++ p.xs.drop (i + 1)) := by
  obtain ⟨m, hm, hm1⟩ : ∃ m, (p.xs.drop i).length = m ∧ 1 ≤ m := ⟨p.xs.length - i, by simp, by omega⟩
  have HP := hide (parts_any h i (by omega))
  have HLO := hide (h.part.low i (by omega))
  have HOW : Hid (∀ k, (lowP p i).own = some k → p.own = some k) := hide (fun k hk => low_own h.part i (by omega) hk)
  have HH := hide h
  have hmz : (m : Int) ≤ 100000 := by simp at hm; omega
  have hmz1 : (1 : Int) ≤ (m : Int) := by omega
  have HM1 := hide hm1
  have HD : Hid ((lowP p i).xs ++ (p.xs.drop i).drop 1 = p.xs.take i ++ p.xs.drop (i + 1) ∧ (lowP p i).xs.length + ((p.xs.drop i).drop 1).length ≤ 100000) := hide ⟨by simp [lowP], by simp [lowP]; omega⟩
  have HM := hide hm
  generalize lowP p i = lo at *
  generalize p.xs.drop i = L at *
  clear h hl hi hm hm1
  go_enter Try.func100, Try.ntmps100
  go_wp2_with fail
  refine (unhide HP).mono ?_
  rintro e w1 ⟨⟨v, rfl, hr⟩, hb1⟩
  obtain ⟨g, off, c, rfl, hcN, hc2, hlm, hN1, hN2⟩ := (hr.below hb1).open (unhide HM) (unhide HM1)
  have hcz : (m : Int) ≤ (c : Int) := by omega
  clear hcN
  have hcq : (c : Int) ≤ 9223372036854775807 := by unfold maxLen at hc2; omega
  have HLM := hide hlm
  have HB1 := hide hb1
  have key : ∀ (w3 : World) (q : PartM), PartAt w3 base q → q.xs = lo.xs ++ L.drop 1 → w1.grownBy w3 lo.own → (q.own = lo.own ∨ q.own = some w1.heap.size) → UpdP w (w3.setCell ⟨b, 0, none⟩ q.val) base b p (p.xs.take i ++ p.xs.drop (i + 1)) ∧ w3.cell? ⟨b, 0, none⟩ = some p.val ∧ w3.frozen? ⟨b, 0, none⟩ = false := by
    intro w3 q h1 h2 h3 h4
    have M : Mod (fun k => p.own = some k) w w3 := (Mod.of_below hb1).trans (Mod.grown h3 (fun k hk => (unhide HOW) k hk))
    refine ⟨(unhide HH).done M h1 (h2.trans (unhide HD).1) (fun k hk => ?_), (unhide HH).cellM M⟩
    rcases h4 with e | e
    · exact .inl ((unhide HOW) k (e ▸ hk))
    · rw [e] at hk
      simp at hk
      exact .inr (by have := hb1.size; omega)
  have HK := hide key
  have HSZ : Hid (base ≤ w1.heap.size) := hide (by have h1 := (unhide HH).lo; have h2 := (unhide HH).lt; have h3 := hb1.size; omega)
  have HLO1 := hide ((unhide HLO).below hb1)
  by_cases hc1 : c = 1
  · subst hc1
    have HN := hide (hN1 rfl (some ⟨g, off, none⟩))
    clear hb1 hr hN1 hN2 hlm hc2 HP key
    go_wp2_with (at_builtin; go_must (refine wpList_part_n (base := base) (p := lo) (by rfl) _ _ (by rfl) (by rfl) (some ⟨g, off, none⟩) (L.drop 1) (m - 1) 0 (unhide HLM) (by rfl) (unhide HLO1) (unhide HSZ) (unhide HN) (by have := (unhide HD).2; omega) ?_); intro q w3 g1 g2 g3 g4; obtain ⟨k1, k2, k3⟩ := (unhide HK) w3 q g1 g2 g3 g4; have HK1 := hide k1; clear g1 g2 g3 g4 k1; obtain ⟨qa, qc, qx⟩ := q; simp only [PartM.val] at HK1 ⊢)
    go_end0
    exact ⟨rfl, unhide HK1⟩
  · have HN := hide hN2
    clear hb1 hr hN1 hN2 hlm hc2 HP key
    go_wp2_with (at_builtin; go_must (refine wpList_part_n (base := base) (p := lo) (by rfl) _ _ (by rfl) (by rfl) (some ⟨g, off + 1, none⟩) (L.drop 1) (m - 1) (c - 1) (unhide HLM) (by rfl) (unhide HLO1) (unhide HSZ) (unhide HN) (by have := (unhide HD).2; omega) ?_); intro q w3 g1 g2 g3 g4; obtain ⟨k1, k2, k3⟩ := (unhide HK) w3 q g1 g2 g3 g4; have HK1 := hide k1; clear g1 g2 g3 g4 k1; obtain ⟨qa, qc, qx⟩ := q; simp only [PartM.val] at HK1 ⊢)
    go_end0
    exact ⟨rfl, unhide HK1⟩

set_option maxHeartbeats 2000000 in
theorem put_any (h : PileAt w base b p) (hl : p.xs.length ≤ 100000) (i : Nat) (hi : i ≤ p.xs.length) (x : Int) : Calls Try.prog 101 #[.pointer (some ⟨b, 0, none⟩), .int .i64 i, .int .i64 x] w fun e w' => e = .returned (.tuple #[]) ∧ UpdP w w' base b p (p.xs.take i ++ x :: p.xs.drop i) := by
  have HP := hide (parts_any h i (by omega))
  have HLO := hide (h.part.low i (by omega))
  have HH := hide h
  have HD : Hid (((lowP p i).xs ++ [x]) ++ p.xs.drop i = p.xs.take i ++ x :: p.xs.drop i ∧ (lowP p i).xs.length + 1 + (p.xs.drop i).length ≤ 200000 ∧ (lowP p i).cap < (lowP p i).xs.length + 1) := hide ⟨by simp [lowP], by simp [lowP]; omega, by simp [lowP]; omega⟩
  generalize lowP p i = lo at *
  generalize p.xs.drop i = L at *
  clear h hl hi
  go_enter Try.func101, Try.ntmps101
  go_wp2_with fail
  refine (unhide HP).mono ?_
  rintro e w1 ⟨⟨v, rfl, hr⟩, hb1⟩
  obtain ⟨a, c, rfl, hN, hc1, hc2⟩ := hr.below hb1
  have HB1 := hide hb1
  have key : ∀ (w3 w4 : World) (q q2 : PartM), PartAt w3 base q → q.own = some (w1.heap.size + 1) → Below (w1.alloc (.cells #[.int .i64 x] 3)).heap.size (w1.alloc (.cells #[.int .i64 x] 3)) w3 → q.xs = lo.xs ++ [x] → PartAt w4 base q2 → q2.xs = q.xs ++ L → w3.grownBy w4 q.own → (q2.own = q.own ∨ q2.own = some w3.heap.size) → UpdP w (w4.setCell ⟨b, 0, none⟩ q2.val) base b p (p.xs.take i ++ x :: L) ∧ w4.cell? ⟨b, 0, none⟩ = some p.val ∧ w4.frozen? ⟨b, 0, none⟩ = false := by
    intro w3 w4 q q2 h1 ho h2 h3 h4 h5 h6 h7
    have B3 : Below w1.heap.size w1 w3 := ((Below.refl _ w1).alloc (Nat.le_refl _) _).trans (h2.mono (by simp))
    have hs1 := hb1.size
    have hs3 := B3.size
    have M : Mod (fun k => p.own = some k) w w4 := ((Mod.of_below hb1).trans (Mod.of_below B3)).then (Mod.grown (F := fun k => q.own = some k) h6 (fun k hk => hk)) (fun k hk => .inr (by rw [ho] at hk; simp at hk; omega))
    refine ⟨(unhide HH).done M h4 (by rw [h5, h3]; exact (unhide HD).1) (fun k hk => .inr ?_), (unhide HH).cellM M⟩
    rcases h7 with e | e
    · rw [e, ho] at hk; simp at hk; omega
    · rw [e] at hk; simp at hk; omega
  have HK := hide key
  have HSZ : Hid (base ≤ w1.heap.size) := hide (by have h1 := (unhide HH).lo; have h2 := (unhide HH).lt; have h3 := hb1.size; omega)
  have HLO1 := hide ((unhide HLO).below (hb1.trans (((Below.refl _ w1).alloc (Nat.le_refl _) (.cells #[.int .i64 x] 3)).mono hb1.size)))
  have HNN := hide hN
  clear hb1 hr hN hc1 hc2 HP key HLO
  go_wp2_with (first
    | (have _x := unhide HQ1; clear _x; at_builtin; go_must (refine wpList_part_n (base := base) (p := q) (by rfl) _ _ (by rfl) (by rfl) a L L.length c rfl (by rfl) (unhide HQ1) (by have := unhide HSZ; have := (unhide HQ3).size; simp at this; omega) ((unhide HNN).below (((Below.refl _ w1).alloc (Nat.le_refl _) _).trans ((unhide HQ3).mono (by simp)))) (by have := (unhide HD).2; rw [unhide HQ2]; simp; omega) ?_); intro q2 w4 g1 g2 g3 g4; obtain ⟨k1, k2, k3⟩ := (unhide HK) w3 w4 q q2 (unhide HQ1) (by have := unhide HQ4; simpa using this) (unhide HQ3) (unhide HQ2) g1 g2 g3 g4; have HK1 := hide k1; clear g1 g2 g3 g4 k1; obtain ⟨qa, qc, qx⟩ := q2; simp only [PartM.val] at HK1 ⊢)
    | (at_builtin; go_must (refine wpList_part_full (base := base) (p := lo) (by rfl) (.tmp 15) _ (by rfl) (by rfl) (some ⟨w1.heap.size, 0, none⟩) [x] 1 1 rfl (by rfl) (unhide HLO1) (by have := unhide HSZ; simp; omega) (one_num w1 x) (by have := (unhide HD).2; simp; omega) (by exact (unhide HD).2.2) ?_); intro q w3 g1 g2 g3 g4; have HQ1 := hide g1; have HQ2 := hide g2; have HQ3 := hide g3; have HQ4 := hide g4; clear g1 g2 g3 g4))
  go_end0
  exact ⟨rfl, unhide HK1⟩
end
end Go.Proofs.Ytmllhebmaldgfaa
