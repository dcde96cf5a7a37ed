import Derived.Test.YtgmlngmfocdmhaaAk
import Derived.ArgAppend
import Derived.Deep.AppendLies
import Derived.Deep.AppendSrc
import Derived.Deep.Upon
import Derived.Lib.AppendZerosOnto
import Derived.Deep.LoopGhost
import Derived.Deep.QuietTactic
import Derived.BigQuiet
/-
  A list of numbers in memory: a slice from anywhere in a block of its own on; what an append does to it.
-/
namespace Go.Proofs.Ytgmlngmfocdmhaa
open Go.RowKit

/-- The second may write what the first made. -/
theorem Mod.then {F G : Nat → Prop} {a b c : World} (h : Mod F a b) (k : Mod G b c) (hG : ∀ i, G i → F i ∨ a.heap.size ≤ i) : Mod F a c :=
  ⟨k.os.trans h.os, k.tape.trans h.tape, k.output.trans h.output, Nat.le_trans h.size k.size, fun i hi hf => (k.block i (Nat.lt_of_lt_of_le hi h.size) (fun hg => (hG i hg).elim hf (fun h => by omega))).trans (h.block i hi hf)⟩

/-- A slice of numbers: where it begins, its room, what it holds. -/
structure PartM where
  a : Option Addr
  cap : Nat
  xs : List Int

def PartM.val (p : PartM) : Value := .slice p.a p.xs.length p.cap
def PartM.own (p : PartM) : Option Nat := if p.cap = 0 then none else p.a.map Addr.block
def numsV (l : List Int) : List Value := l.map fun x => Value.int .i64 x
theorem numsV_len (l : List Int) : (numsV l).length = l.length := by simp [numsV]
theorem nums_one (l : List Int) : ∀ u ∈ numsV l, u.oneCell' = true := by
  intro u hu
  unfold numsV at hu
  obtain ⟨c, _, rfl⟩ := List.mem_map.1 hu
  rfl
theorem numsV_at {l : List Int} {j : Nat} {x : Int} (h : l[j]? = some x) : (numsV l)[j]? = some (.int .i64 x) := by simp [numsV, h]

/-- It lies so, in a block of its own that is not older than base. -/
structure PartAt (w : World) (base : Nat) (p : PartM) : Prop where
  len : p.xs.length ≤ p.cap
  most : p.cap ≤ maxLen
  lies : p.cap = 0 ∨ ∃ g off cur, p.a = some ⟨g, off, none⟩ ∧ base ≤ g ∧ w.heap[g]? = some (.cells cur 3 (0, 0)) ∧ off + p.cap ≤ cur.size ∧ ∀ j x, p.xs[j]? = some x → cur[off + j]? = some (.int .i64 x)

/-- Code points that can be read. -/
def NumsIn (w : World) (a : Option Addr) (l : List Int) : Prop := ∀ i x, l[i]? = some x → ∃ b off, a = some ⟨b, off, none⟩ ∧ w.cell? ⟨b, off + i, none⟩ = some (.int .i64 x)

section
variable {w w' : World} {base : Nat} {p : PartM}

theorem PartAt.nil (w : World) (base : Nat) (a : Option Addr) : PartAt w base ⟨a, 0, []⟩ := ⟨Nat.le_refl _, Nat.zero_le _, .inl rfl⟩
theorem PartAt.nums (h : PartAt w base p) : NumsIn w p.a p.xs := by
  intro i x hi
  have hlt := (List.getElem?_eq_some_iff.1 hi).1
  rcases h.lies with hz | ⟨g, off, cur, ha, _, hg, _, hc⟩
  · have := h.len; omega
  · exact ⟨g, off, ha, by simp [World.cell?, hg, hc i x hi]⟩
theorem PartAt.own_lt (h : PartAt w base p) {k : Nat} (hk : p.own = some k) : base ≤ k ∧ k < w.heap.size ∧ ∃ cur, w.heap[k]? = some (.cells cur 3 (0, 0)) := by
  unfold PartM.own at hk
  split at hk
  · cases hk
  · rename_i hz
    rcases h.lies with h0 | ⟨g, off, cur, ha, hb, hg, _⟩
    · exact absurd h0 hz
    · rw [ha] at hk
      simp at hk
      subst hk
      exact ⟨hb, lt_of_block hg, cur, hg⟩
theorem PartAt.kept (h : PartAt w base p) (hk : ∀ k, p.own = some k → w'.heap[k]? = w.heap[k]?) : PartAt w' base p := by
  refine ⟨h.len, h.most, ?_⟩
  rcases h.lies with h0 | ⟨g, off, cur, ha, hb, hg, r⟩
  · exact .inl h0
  · by_cases hz : p.cap = 0
    · exact .inl hz
    · have : p.own = some g := by unfold PartM.own; rw [if_neg hz, ha]; rfl
      exact .inr ⟨g, off, cur, ha, hb, (hk g this).trans hg, r⟩
theorem PartAt.mod {F : Nat → Prop} (h : PartAt w base p) (hm : Mod F w w') (hF : ∀ k, p.own = some k → ¬ F k) : PartAt w' base p :=
  h.kept fun k hk => hm.block k (h.own_lt hk).2.1 (hF k hk)
theorem PartAt.below (h : PartAt w base p) (hb : Below w.heap.size w w') : PartAt w' base p := h.kept fun k hk => hb.block k (h.own_lt hk).2.1
theorem PartAt.lower {b2 : Nat} (h : PartAt w base p) (hb : b2 ≤ base) : PartAt w b2 p := by
  refine ⟨h.len, h.most, h.lies.imp id ?_⟩
  rintro ⟨g, off, cur, ha, hbb, r⟩
  exact ⟨g, off, cur, ha, Nat.le_trans hb hbb, r⟩
theorem NumsIn.below {a : Option Addr} {l : List Int} (h : NumsIn w a l) (hb : Below w.heap.size w w') : NumsIn w' a l := by
  intro i x hi
  obtain ⟨b, off, ha, hc⟩ := h i x hi
  exact ⟨b, off, ha, by rw [hb.cell (World.block_lt_of_cell? w _ hc)]; exact hc⟩
theorem NumsIn.mod {F : Nat → Prop} {a : Option Addr} {l : List Int} (h : NumsIn w a l) (hm : Mod F w w') (hF : ∀ b off, a = some ⟨b, off, none⟩ → ¬ F b) : NumsIn w' a l := by
  intro i x hi
  obtain ⟨b, off, ha, hc⟩ := h i x hi
  exact ⟨b, off, ha, by rw [World.cell?_of_block (hm.block b (World.block_lt_of_cell? w _ hc) (hF b off ha))]; exact hc⟩
theorem NumsIn.take {a : Option Addr} {l : List Int} (h : NumsIn w a l) (n : Nat) : NumsIn w a (l.take n) := by
  intro i x hi
  rw [List.getElem?_take] at hi
  split at hi
  · exact h i x hi
  · cases hi
theorem NumsIn.drop {b off : Nat} {l : List Int} (h : NumsIn w (some ⟨b, off, none⟩) l) (n : Nat) : NumsIn w (some ⟨b, off + n, none⟩) (l.drop n) := by
  intro i x hi
  rw [List.getElem?_drop] at hi
  obtain ⟨b', off', ha, hc⟩ := h _ x hi
  cases ha
  exact ⟨_, _, rfl, by rw [Nat.add_assoc]; exact hc⟩

theorem add_at (b off j : Nat) : (⟨b, off, none⟩ : Addr).add j = ⟨b, off + j, none⟩ := by unfold Addr.add; split <;> simp_all

theorem NumsIn.src {P : Program} {a : Option Addr} {l : List Int} {e : TypeId} (h : NumsIn w a l) (he : P.underlying 32 = some (.slice e)) (c : Nat) : Src P 1 32 (.slice a l.length c) l.length (numsV l) w := by
  cases l with
  | nil =>
    cases a with
    | none => exact Src.ofNil w he c
    | some ad => exact Src.ofSlice w he ad 0 c [] (by simp) (fun j u hu => by simp at hu) (by simp)
  | cons y l =>
    obtain ⟨b, off, rfl, _⟩ := h 0 y rfl
    refine Src.ofSlice w he _ _ c _ (by simp [numsV]) (fun j u hu => ?_) (nums_one _)
    unfold numsV at hu
    rw [List.getElem?_map] at hu
    cases hj : (y :: l)[j]? with
    | none => rw [hj] at hu; cases hu
    | some x =>
      rw [hj] at hu
      cases hu
      obtain ⟨b', off', ha, hc⟩ := h j x hj
      cases ha
      rw [add_at]
      exact hc

theorem setCells_block (b : Nat) : ∀ (vs : List Value) (o : Nat) (w : World) (cur : Array Value) (t : TypeId), w.heap[b]? = some (.cells cur t (0, 0)) →
    ∃ cur', (w.setCells b o vs).heap[b]? = some (.cells cur' t (0, 0)) ∧ cur'.size = cur.size
  | [], _, w, cur, t, h => ⟨cur, h, rfl⟩
  | v :: r, o, w, cur, t, h => by
    have h1 := heap_setCell_same w b o cur t v h
    obtain ⟨cur', h2, h3⟩ := setCells_block b r (o + 1) _ _ t h1
    exact ⟨cur', h2, by rw [h3]; simp⟩
theorem setCells_size (b : Nat) : ∀ (vs : List Value) (o : Nat) (w : World), (w.setCells b o vs).heap.size = w.heap.size
  | [], _, _ => rfl
  | v :: r, o, w => by rw [World.setCells, setCells_size b r]; simp
theorem setCells_other (b k : Nat) (hk : k ≠ b) : ∀ (vs : List Value) (o : Nat) (w : World), (w.setCells b o vs).heap[k]? = w.heap[k]?
  | [], _, _ => rfl
  | v :: r, o, w => by rw [World.setCells, setCells_other b k hk r]; exact Below.heap_setCell _ _ _ _ hk
theorem setCells_rest (b : Nat) : ∀ (vs : List Value) (o : Nat) (w : World), (w.setCells b o vs).os = w.os ∧ (w.setCells b o vs).tape = w.tape ∧ (w.setCells b o vs).output = w.output
  | [], _, _ => ⟨rfl, rfl, rfl⟩
  | v :: r, o, w => by rw [World.setCells]; exact setCells_rest b r (o + 1) _
end


/-- Code points behind a list of numbers. -/
theorem part_append {w : World} {base : Nat} {p : PartM} (hp : PartAt w base p) (hb : base ≤ w.heap.size) (ty : TypeId) (a : Option Addr) (l : List Int) (c : Nat) (hl : NumsIn w a l) (hm : p.xs.length + l.length ≤ 1000000000) :
    ∃ p' w', (Builtin.append_ #[32, 32] ty #[p.val, .slice a l.length c]).run Try.prog w = .ok p'.val w' ∧ PartAt w' base p' ∧ p'.xs = p.xs ++ l ∧ w.grownBy w' p.own ∧ (p'.own = p.own ∨ p'.own = some w.heap.size) ∧ (p.xs.length + l.length ≤ p.cap → p'.own = p.own ∧ p'.cap = p.cap) ∧ (p.cap < p.xs.length + l.length → Below w.heap.size w w' ∧ p'.own = some w.heap.size) := by
  obtain ⟨i0, hi0, hz0, hz1, hz2⟩ := info_parts Try.info3
  have hu : Try.prog.underlying 32 = some (.slice 3) := by kernel_rfl
  have hs := hl.src hu c
  have hmo := hp.most
  by_cases hroom : p.xs.length + l.length ≤ p.cap
  · rcases hp.lies with h0 | ⟨g, off, cur, ha, hbb, hg, hsz, hcs⟩
    · obtain ⟨pa, pc, pxs⟩ := p
      simp only at h0 hroom
      subst h0
      obtain rfl : pxs = [] := List.eq_nil_of_length_eq_zero (by omega)
      obtain rfl : l = [] := List.eq_nil_of_length_eq_zero (by simp at hroom; simp [hroom])
      refine ⟨⟨pa, 0, []⟩, w, ?_, hp, rfl, ⟨rfl, rfl, rfl, Nat.le_refl _, fun _ _ _ => rfl⟩, .inl rfl, fun _ => ⟨rfl, rfl⟩, fun h => absurd h (by simp)⟩
      have := run_append_nothing (P := Try.prog) w 32 32 ty 3 i0 hu hi0 pa 0 0 (Nat.le_refl _) (.slice a 0 c) (by rw [hz1]; exact hs)
      exact this
    · have hcell : ∀ j, j < p.cap → w.cell? ⟨g, off + j, none⟩ = cur[off + j]? := fun j _ => cell_of_row w g (off + j) cur 3 (0, 0) hg
      have hin : ∀ j, j < l.length → (w.cell? ⟨g, off + p.xs.length + j, none⟩).isSome = true := by
        intro j hj
        rw [Nat.add_assoc, hcell _ (by omega), Array.getElem?_eq_getElem (by omega)]
        rfl
      have hfr : ∀ j, w.frozen? ⟨g, j, none⟩ = false := fun j => by simp [World.frozen?, hg]
      have hr := run_append_room_src (P := Try.prog) w 32 32 ty 3 i0 hu hi0 g off p.xs.length p.cap _ l.length (numsV l) (by rw [hz1]; exact hs) hroom
        (by rw [hz1, numsV_len, Nat.mul_one]; exact hin) (by intro j _; exact hfr _)
      rw [hz1, Nat.mul_one] at hr
      refine ⟨⟨p.a, p.cap, p.xs ++ l⟩, w.setCells g (off + p.xs.length) (numsV l), ?_, ⟨by simpa using hroom, hmo, .inr ?_⟩, rfl, ?_, .inl rfl, fun _ => ⟨rfl, rfl⟩, fun h => absurd h (by omega)⟩
      · unfold PartM.val
        simp only [List.length_append]
        rw [ha]
        exact hr
      · obtain ⟨cur', h1, h2⟩ := setCells_block g (numsV l) (off + p.xs.length) w cur 3 hg
        refine ⟨g, off, cur', ha, hbb, h1, by rw [h2]; exact hsz, fun j x hj => ?_⟩
        rw [← cell_of_row _ g (off + j) cur' 3 (0, 0) h1]
        by_cases hjl : j < p.xs.length
        · rw [World.cell?_setCells_out g _ _ _ _ (fun _ _ => .inl (by simp; omega)), cell_of_row w g (off + j) cur 3 (0, 0) hg]
          simp only at hj
          rw [List.getElem?_append_left hjl] at hj
          exact hcs j x hj
        · simp only at hj
          rw [List.getElem?_append_right (by omega)] at hj
          have hlt := (List.getElem?_eq_some_iff.1 hj).1
          have := World.cell?_setCells_in g (numsV l) (off + p.xs.length) w (by rw [numsV_len]; exact hin) (j - p.xs.length) (by rw [numsV_len]; exact hlt)
          rw [show off + p.xs.length + (j - p.xs.length) = off + j by omega] at this
          rw [this]
          have h9 := numsV_at hj
          rw [List.getElem?_eq_getElem (by rw [numsV_len]; exact hlt)] at h9
          exact h9
      · obtain ⟨r1, r2, r3⟩ := setCells_rest g (numsV l) (off + p.xs.length) w
        by_cases hz : p.cap = 0
        · obtain rfl : l = [] := List.eq_nil_of_length_eq_zero (by omega)
          exact ⟨rfl, rfl, rfl, Nat.le_refl _, fun _ _ _ => rfl⟩
        · have ho : p.own = some g := by unfold PartM.own; rw [if_neg hz, ha]; rfl
          rw [ho]
          exact ⟨r1, r2, r3, by rw [setCells_size]; exact Nat.le_refl _, fun k _ hk => setCells_other g k (fun e => hk (by rw [e])) _ _ _⟩
  · have hold : (Builtin.firstCells i0.size p.xs.length (.slice p.a p.xs.length p.cap)).run Try.prog w.drew = .ok (numsV p.xs).toArray w.drew := by
      rw [hz1]
      exact ((hp.nums).src hu p.cap).cellsD
    have hr := run_append_grow_src (P := Try.prog) w 32 32 ty 3 i0 (.int .i64 0) hu hi0 hz0 p.a p.xs.length p.cap (numsV p.xs) hold _ l.length (numsV l) (by rw [hz1]; exact hs) (by omega) (by omega)
      (growslice_fits (by omega) (by rw [hz2]; omega))
    have hge := grownCap_ge w (p.xs.length + l.length) p.cap 3
    have hle := grownCap_le_maxLen w (p.xs.length + l.length) p.cap 3 (by unfold maxLen; omega)
    refine ⟨⟨some ⟨w.heap.size, 0, none⟩, grownCap w (p.xs.length + l.length) p.cap 3, p.xs ++ l⟩, w.drew.alloc (.cells ((numsV p.xs ++ numsV l).toArray ++ Builtin.zeroCells (Value.int .i64 0).cells (grownCap w (p.xs.length + l.length) p.cap 3 - (p.xs.length + l.length))) 3), ?_, ⟨by simpa using hge, hle, .inr ⟨w.heap.size, 0, _, rfl, hb, heap_alloc_new w.drew _, ?_, ?_⟩⟩, rfl, ?_, .inr ?_, fun h => absurd h hroom, fun _ => ⟨((Below.refl _ w).drew).alloc (by simp) _, ?_⟩⟩
    · unfold PartM.val
      simp only [List.length_append]
      exact hr
    · simp only [Array.size_append, List.size_toArray, size_zeroCells, List.length_append, numsV_len]
      simp [Value.cells]
      omega
    · intro j x hj
      simp only at hj
      have hlt := (List.getElem?_eq_some_iff.1 hj).1
      rw [Nat.zero_add, Array.getElem?_append_left (by simp only [List.size_toArray, List.length_append, numsV_len] at hlt ⊢; exact hlt)]
      simp only [List.getElem?_toArray]
      have : numsV p.xs ++ numsV l = numsV (p.xs ++ l) := by simp [numsV]
      rw [this]
      exact numsV_at hj
    · exact ⟨rfl, rfl, rfl, by simp, fun k hk _ => heap_alloc_old w.drew _ hk⟩
    · unfold PartM.own
      rw [if_neg (by simp only; omega)]
      rfl
    · unfold PartM.own
      rw [if_neg (by simp only; omega)]
      rfl

theorem wpList_part_append {w : World} {base : Nat} {p : PartM} {ops : Array Oper} {rest : List Oper} {o : Oper} {act : Act} {Q : Exit → Act → World → Prop} (hgd : o.guard = none) (s x : Operand)
    (ho : o.op = .call { callee := .builtin .append, args := #[s, x], argTypes := #[32, 32] }) (hs : act.eval s = p.val) (a : Option Addr) (l : List Int) (c : Nat) (hx : act.eval x = .slice a l.length c)
    (hp : PartAt w base p) (hb : base ≤ w.heap.size) (hl : NumsIn w a l) (hm : p.xs.length + l.length ≤ 1000000000)
    (h : ∀ p' w', PartAt w' base p' → p'.xs = p.xs ++ l → w.grownBy w' p.own → (p'.own = p.own ∨ p'.own = some w.heap.size) → (p.xs.length + l.length ≤ p.cap → p'.own = p.own ∧ p'.cap = p.cap) → wpList Try.prog ops Q rest (act.put o.dst p'.val) w') :
    wpList Try.prog ops Q (o :: rest) act w := by
  obtain ⟨p', w', hr, h1, h2, h3, h4, h5, _⟩ := part_append hp hb o.type a l c hl hm
  exact Lib.wpList_append_run w hgd s x 32 32 ho _ _ hs hx _ _ hr (h p' w' h1 h2 h3 h4 h5)

/-- Where there is no room. -/
theorem wpList_part_full {w : World} {base : Nat} {p : PartM} {ops : Array Oper} {rest : List Oper} {o : Oper} {act : Act} {Q : Exit → Act → World → Prop} (hgd : o.guard = none) (s x : Operand)
    (ho : o.op = .call { callee := .builtin .append, args := #[s, x], argTypes := #[32, 32] }) (hs : act.eval s = p.val) (a : Option Addr) (l : List Int) (n c : Nat) (hn : l.length = n) (hx : act.eval x = .slice a n c)
    (hp : PartAt w base p) (hb : base ≤ w.heap.size) (hl : NumsIn w a l) (hm : p.xs.length + l.length ≤ 1000000000) (hf : p.cap < p.xs.length + l.length)
    (h : ∀ p' w', PartAt w' base p' → p'.xs = p.xs ++ l → Below w.heap.size w w' → p'.own = some w.heap.size → wpList Try.prog ops Q rest (act.put o.dst p'.val) w') :
    wpList Try.prog ops Q (o :: rest) act w := by
  subst hn
  obtain ⟨p', w', hr, h1, h2, h3, h4, h5, h6⟩ := part_append hp hb o.type a l c hl hm
  exact Lib.wpList_append_run w hgd s x 32 32 ho _ _ hs hx _ _ hr (h p' w' h1 h2 (h6 hf).1 (h6 hf).2)

theorem one_num (w : World) (c : Int) : NumsIn (w.alloc (.cells #[.int .i64 c] 3)) (some ⟨w.heap.size, 0, none⟩) [c] := by
  intro i x hi
  match i, hi with
  | 0, hi => simp at hi; subst hi; exact ⟨_, _, rfl, cell_of_one (heap_alloc_new w _)⟩

/-- Whatever the room is, its cells can be read. -/
theorem PartAt.cellsAll {w : World} {base : Nat} {p : PartM} (h : PartAt w base p) (hc : 0 < p.cap) : ∃ g off cur, p.a = some ⟨g, off, none⟩ ∧ base ≤ g ∧ w.heap[g]? = some (.cells cur 3 (0, 0)) ∧ off + p.cap ≤ cur.size ∧ (∀ j x, p.xs[j]? = some x → cur[off + j]? = some (.int .i64 x)) := by
  rcases h.lies with h0 | h
  · omega
  · exact h
end Go.Proofs.Ytgmlngmfocdmhaa
/-
  A pile of package stack in memory, and its methods.
-/
namespace Go.Proofs.Ytgmlngmfocdmhaa
open Go.RowKit

theorem setCell_far (w : World) (a : Addr) (v : Value) {k : Nat} (h : k ≠ a.block) : (w.setCell a v).heap[k]? = w.heap[k]? := Below.heap_setCell _ _ _ _ h

/-- Its blocks. -/
def footP (b : Nat) (p : PartM) (k : Nat) : Prop := k = b ∨ p.own = some k

section
variable {w w' w1 : World} {base b : Nat} {p p' : PartM}
end

section
variable {w : World} {base b : Nat} {p : PartM}

/-- r is where x stands in L. -/
def FindR (L : List Int) (x r : Int) : Prop := (r = -1 ∧ x ∉ L) ∨ ∃ j : Nat, r = (j : Int) ∧ L[j]? = some x

theorem PartAt.cut (h : PartAt w base p) (n : Nat) (hn : n ≤ p.xs.length) : PartAt w base ⟨p.a, p.cap, p.xs.take n⟩ := by
  have hl := h.len
  refine ⟨by simp; omega, h.most, h.lies.imp id ?_⟩
  rintro ⟨g, off, cur, ha, hb, hg, hs, hc⟩
  refine ⟨g, off, cur, ha, hb, hg, hs, fun j x hj => ?_⟩
  simp only at hj
  rw [List.getElem?_take] at hj
  split at hj
  · exact hc j x hj
  · cases hj

end
end Go.Proofs.Ytgmlngmfocdmhaa
/-
  A pile of package stack: an item swapped, put in and taken out.
-/
namespace Go.Proofs.Ytgmlngmfocdmhaa
open Go.RowKit

section
variable {w : World} {base b : Nat} {p : PartM}

theorem PartAt.put {g off : Nat} (h : PartAt w base p) (ha : p.a = some ⟨g, off, none⟩) (i : Nat) (hi : i < p.xs.length) (x : Int) : PartAt (w.setCell ⟨g, off + i, none⟩ (.int .i64 x)) base ⟨p.a, p.cap, p.xs.set i x⟩ := by
  have hl := h.len
  refine ⟨by simpa using hl, h.most, ?_⟩
  obtain ⟨g', off', cur, ha', hb, hg, hs, hc⟩ := h.cellsAll (by omega)
  rw [ha] at ha'
  cases ha'
  refine .inr ⟨g, off, _, ha, hb, heap_setCell_same w g (off + i) cur 3 (.int .i64 x) hg, by simpa using hs, fun j y hj => ?_⟩
  simp only at hj
  by_cases e : i = j
  · subst e
    rw [List.getElem?_set_self hi] at hj
    cases hj
    rw [Array.getElem?_setIfInBounds_self_of_lt (by omega)]
  · rw [List.getElem?_set_ne e] at hj
    have := hc j y hj
    rw [Array.getElem?_setIfInBounds_ne (by omega)]
    exact this

theorem below_dn {B : Nat} {a w : World} (h : Below B a w) (n : Nat) : Below B a (w.drewN n) := ⟨h.os, h.tape, h.output, h.size, h.block⟩

/-- What is below a place, and the rest. -/
def lowP (p : PartM) (i : Nat) : PartM := ⟨p.a, i, p.xs.take i⟩
def RestIs (w : World) (v : Value) (L : List Int) : Prop := ∃ a c, v = .slice a L.length c ∧ NumsIn w a L ∧ L.length ≤ c ∧ c ≤ maxLen
theorem rest_mk {a : Option Addr} {n c : Nat} {L : List Int} (h : L.length = n) (hN : NumsIn w a L) (hc : n ≤ c) (hm : c ≤ maxLen) : RestIs w (.slice a n c) L := ⟨a, c, by rw [h], hN, by omega, hm⟩

end
end Go.Proofs.Ytgmlngmfocdmhaa
/-
  A pile of package stack: an item put in, an item taken out.
-/
namespace Go.Proofs.Ytgmlngmfocdmhaa
open Go.RowKit

section
variable {w : World} {base b : Nat} {p : PartM}

theorem PartAt.low (h : PartAt w base p) (i : Nat) (hi : i ≤ p.xs.length) : PartAt w base (lowP p i) := by
  have hl := h.len
  have hm := h.most
  refine ⟨by simp [lowP]; omega, by simp only [lowP]; omega, ?_⟩
  by_cases e : i = 0
  · exact .inl e
  · obtain ⟨g, off, cur, ha, hb, hg, hs, hc⟩ := h.cellsAll (by omega)
    refine .inr ⟨g, off, cur, ha, hb, hg, by simp only [lowP]; omega, fun j x hj => ?_⟩
    simp only [lowP] at hj
    rw [List.getElem?_take] at hj
    split at hj
    · exact hc j x hj
    · cases hj
theorem low_own (h : PartAt w base p) (i : Nat) (hi : i ≤ p.xs.length) {k : Nat} (hk : (lowP p i).own = some k) : p.own = some k := by
  have hl := h.len
  unfold PartM.own lowP at hk
  unfold PartM.own
  simp only at hk
  split at hk
  · cases hk
  · rw [if_neg (by omega)]; exact hk
theorem low_len (i : Nat) (hi : i ≤ p.xs.length) : (lowP p i).xs.length = i := by simp [lowP]; omega
theorem RestIs.below {w' : World} {v : Value} {L : List Int} (h : RestIs w v L) (hb : Below w.heap.size w w') : RestIs w' v L := by
  obtain ⟨a, c, e, h1, h2⟩ := h
  exact ⟨a, c, e, h1.below hb, h2⟩

/-- A rest of at least one item, and what is behind its first. -/
theorem RestIs.open {v : Value} {L : List Int} (h : RestIs w v L) {m : Nat} (hL : L.length = m) (hm : 1 ≤ m) : ∃ g off c, v = .slice (some ⟨g, off, none⟩) m c ∧ m ≤ c ∧ c ≤ maxLen ∧ (L.drop 1).length = m - 1 ∧ (c = 1 → ∀ a, NumsIn w a (L.drop 1)) ∧ NumsIn w (some ⟨g, off + 1, none⟩) (L.drop 1) := by
  obtain ⟨a, c, rfl, hN, h1, h2⟩ := h
  obtain ⟨g, off, rfl, _⟩ := hN 0 _ (List.getElem?_eq_getElem (by omega))
  refine ⟨g, off, c, by rw [hL], by omega, h2, by simp; omega, fun e a j x hj => ?_, hN.drop 1⟩
  rw [List.drop_of_length_le (by omega)] at hj
  simp at hj

theorem wpList_part_n {ops : Array Oper} {rest : List Oper} {o : Oper} {act : Act} {Q : Exit → Act → World → Prop} (hgd : o.guard = none) (s x : Operand)
    (ho : o.op = .call { callee := .builtin .append, args := #[s, x], argTypes := #[32, 32] }) (hs : act.eval s = p.val) (a : Option Addr) (l : List Int) (n c : Nat) (hn : l.length = n) (hx : act.eval x = .slice a n c)
    (hp : PartAt w base p) (hb : base ≤ w.heap.size) (hl : NumsIn w a l) (hm : p.xs.length + l.length ≤ 1000000000)
    (h : ∀ p' w', PartAt w' base p' → p'.xs = p.xs ++ l → w.grownBy w' p.own → (p'.own = p.own ∨ p'.own = some w.heap.size) → wpList Try.prog ops Q rest (act.put o.dst p'.val) w') :
    wpList Try.prog ops Q (o :: rest) act w := by
  subst hn
  exact wpList_part_append hgd s x ho hs a l c hx hp hb hl hm (fun p' w' h1 h2 h3 h4 _ => h p' w' h1 h2 h3 h4)

end
end Go.Proofs.Ytgmlngmfocdmhaa
