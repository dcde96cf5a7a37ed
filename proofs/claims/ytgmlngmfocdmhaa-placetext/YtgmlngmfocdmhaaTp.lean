/-
  A list of numbers in memory: a slice from anywhere in a block of its own on; what an append does to it.
-/
import Derived.Test.YtgmlngmfocdmhaaPd
import Derived.ArgAppend
import Derived.Deep.AppendLies
import Derived.Deep.AppendSrc
import Derived.Deep.Upon
import Derived.Lib.AppendZerosOnto
namespace Go.Proofs.Ytgmlngmfocdmhaa
open Go.RowKit

theorem Try.info21 : (Try.prog.info? 21).map (fun i => (i.zero, i.size, i.bytes)) = some (some (.int .i32 0), 1, 4) := by kernel_rfl
/-- A slice of numbers: where it begins, its room, what it holds. -/
structure PartR where
  a : Option Addr
  cap : Nat
  xs : List Int

def PartR.val (p : PartR) : Value := .slice p.a p.xs.length p.cap
def PartR.own (p : PartR) : Option Nat := if p.cap = 0 then none else p.a.map Addr.block
def runsV (l : List Int) : List Value := l.map fun x => Value.int .i32 x
theorem runsV_len (l : List Int) : (runsV l).length = l.length := by simp [runsV]
theorem runs_one (l : List Int) : ∀ u ∈ runsV l, u.oneCell' = true := by
  intro u hu
  unfold runsV at hu
  obtain ⟨c, _, rfl⟩ := List.mem_map.1 hu
  rfl
theorem runsV_at {l : List Int} {j : Nat} {x : Int} (h : l[j]? = some x) : (runsV l)[j]? = some (.int .i32 x) := by simp [runsV, h]

/-- It lies so, in a block of its own that is not older than base. -/
structure PartRA (w : World) (base : Nat) (p : PartR) : Prop where
  len : p.xs.length ≤ p.cap
  most : p.cap ≤ maxLen
  lies : p.cap = 0 ∨ ∃ g off cur, p.a = some ⟨g, off, none⟩ ∧ base ≤ g ∧ w.heap[g]? = some (.cells cur 21 (0, 0)) ∧ off + p.cap ≤ cur.size ∧ ∀ j x, p.xs[j]? = some x → cur[off + j]? = some (.int .i32 x)

/-- Code points that can be read. -/
def RunsIn (w : World) (a : Option Addr) (l : List Int) : Prop := ∀ i x, l[i]? = some x → ∃ b off, a = some ⟨b, off, none⟩ ∧ w.cell? ⟨b, off + i, none⟩ = some (.int .i32 x)

section
variable {w w' : World} {base : Nat} {p : PartR}

theorem PartRA.nil (w : World) (base : Nat) (a : Option Addr) : PartRA w base ⟨a, 0, []⟩ := ⟨Nat.le_refl _, Nat.zero_le _, .inl rfl⟩
theorem PartRA.nums (h : PartRA w base p) : RunsIn w p.a p.xs := by
  intro i x hi
  have hlt := (List.getElem?_eq_some_iff.1 hi).1
  rcases h.lies with hz | ⟨g, off, cur, ha, _, hg, _, hc⟩
  · have := h.len; omega
  · exact ⟨g, off, ha, by simp [World.cell?, hg, hc i x hi]⟩
theorem PartRA.own_lt (h : PartRA w base p) {k : Nat} (hk : p.own = some k) : base ≤ k ∧ k < w.heap.size ∧ ∃ cur, w.heap[k]? = some (.cells cur 21 (0, 0)) := by
  unfold PartR.own at hk
  split at hk
  · cases hk
  · rename_i hz
    rcases h.lies with h0 | ⟨g, off, cur, ha, hb, hg, _⟩
    · exact absurd h0 hz
    · rw [ha] at hk
      simp at hk
      subst hk
      exact ⟨hb, lt_of_block hg, cur, hg⟩
theorem PartRA.kept (h : PartRA w base p) (hk : ∀ k, p.own = some k → w'.heap[k]? = w.heap[k]?) : PartRA w' base p := by
  refine ⟨h.len, h.most, ?_⟩
  rcases h.lies with h0 | ⟨g, off, cur, ha, hb, hg, r⟩
  · exact .inl h0
  · by_cases hz : p.cap = 0
    · exact .inl hz
    · have : p.own = some g := by unfold PartR.own; rw [if_neg hz, ha]; rfl
      exact .inr ⟨g, off, cur, ha, hb, (hk g this).trans hg, r⟩
theorem PartRA.mod {F : Nat → Prop} (h : PartRA w base p) (hm : Mod F w w') (hF : ∀ k, p.own = some k → ¬ F k) : PartRA w' base p :=
  h.kept fun k hk => hm.block k (h.own_lt hk).2.1 (hF k hk)
theorem PartRA.below (h : PartRA w base p) (hb : Below w.heap.size w w') : PartRA w' base p := h.kept fun k hk => hb.block k (h.own_lt hk).2.1
theorem PartRA.lower {b2 : Nat} (h : PartRA w base p) (hb : b2 ≤ base) : PartRA w b2 p := by
  refine ⟨h.len, h.most, h.lies.imp id ?_⟩
  rintro ⟨g, off, cur, ha, hbb, r⟩
  exact ⟨g, off, cur, ha, Nat.le_trans hb hbb, r⟩
theorem RunsIn.below {a : Option Addr} {l : List Int} (h : RunsIn w a l) (hb : Below w.heap.size w w') : RunsIn w' a l := by
  intro i x hi
  obtain ⟨b, off, ha, hc⟩ := h i x hi
  exact ⟨b, off, ha, by rw [hb.cell (World.block_lt_of_cell? w _ hc)]; exact hc⟩
theorem RunsIn.mod {F : Nat → Prop} {a : Option Addr} {l : List Int} (h : RunsIn w a l) (hm : Mod F w w') (hF : ∀ b off, a = some ⟨b, off, none⟩ → ¬ F b) : RunsIn w' a l := by
  intro i x hi
  obtain ⟨b, off, ha, hc⟩ := h i x hi
  exact ⟨b, off, ha, by rw [World.cell?_of_block (hm.block b (World.block_lt_of_cell? w _ hc) (hF b off ha))]; exact hc⟩
theorem RunsIn.take {a : Option Addr} {l : List Int} (h : RunsIn w a l) (n : Nat) : RunsIn w a (l.take n) := by
  intro i x hi
  rw [List.getElem?_take] at hi
  split at hi
  · exact h i x hi
  · cases hi
theorem RunsIn.drop {b off : Nat} {l : List Int} (h : RunsIn w (some ⟨b, off, none⟩) l) (n : Nat) : RunsIn w (some ⟨b, off + n, none⟩) (l.drop n) := by
  intro i x hi
  rw [List.getElem?_drop] at hi
  obtain ⟨b', off', ha, hc⟩ := h _ x hi
  cases ha
  exact ⟨_, _, rfl, by rw [Nat.add_assoc]; exact hc⟩

theorem RunsIn.src {P : Program} {a : Option Addr} {l : List Int} {e : TypeId} (h : RunsIn w a l) (he : P.underlying 30 = some (.slice e)) (c : Nat) : Src P 1 30 (.slice a l.length c) l.length (runsV l) w := by
  cases l with
  | nil =>
    cases a with
    | none => exact Src.ofNil w he c
    | some ad => exact Src.ofSlice w he ad 0 c [] (by simp) (fun j u hu => by simp at hu) (by simp)
  | cons y l =>
    obtain ⟨b, off, rfl, _⟩ := h 0 y rfl
    refine Src.ofSlice w he _ _ c _ (by simp [runsV]) (fun j u hu => ?_) (runs_one _)
    unfold runsV at hu
    rw [List.getElem?_map] at hu
    cases hj : (y :: l)[j]? with
    | none => rw [hj] at hu; cases hu
    | some x =>
      rw [hj] at hu
      cases hu
      obtain ⟨b', off', ha, hc⟩ := h j x hj
      cases ha
      rw [add_at]
      exact hc

end


/-- Code points behind a list of numbers. -/
theorem partR_append {w : World} {base : Nat} {p : PartR} (hp : PartRA w base p) (hb : base ≤ w.heap.size) (ty : TypeId) (a : Option Addr) (l : List Int) (c : Nat) (hl : RunsIn w a l) (hm : p.xs.length + l.length ≤ 1000000000) :
    ∃ p' w', (Builtin.append_ #[30, 30] ty #[p.val, .slice a l.length c]).run Try.prog w = .ok p'.val w' ∧ PartRA w' base p' ∧ p'.xs = p.xs ++ l ∧ w.grownBy w' p.own ∧ (p'.own = p.own ∨ p'.own = some w.heap.size) ∧ (p.xs.length + l.length ≤ p.cap → p'.own = p.own ∧ p'.cap = p.cap) ∧ (p.cap < p.xs.length + l.length → Below w.heap.size w w' ∧ p'.own = some w.heap.size) := by
  obtain ⟨i0, hi0, hz0, hz1, hz2⟩ := info_parts Try.info21
  have hu : Try.prog.underlying 30 = some (.slice 21) := by kernel_rfl
  have hs := hl.src hu c
  have hmo := hp.most
  by_cases hroom : p.xs.length + l.length ≤ p.cap
  · rcases hp.lies with h0 | ⟨g, off, cur, ha, hbb, hg, hsz, hcs⟩
    · obtain ⟨pa, pc, pxs⟩ := p
      simp only at h0 hroom
      subst h0
      obtain rfl : pxs = [] := List.eq_nil_of_length_eq_zero (by omega)
      obtain rfl : l = [] := List.eq_nil_of_length_eq_zero (by simp at hroom; simp [hroom])
      refine ⟨⟨pa, 0, []⟩, w, ?_, hp, rfl, ⟨rfl, rfl, rfl, Nat.le_refl _, fun _ _ _ => rfl⟩, .inl rfl, fun _ => ⟨rfl, rfl⟩, fun h => absurd h (by simp)⟩
      have := run_append_nothing (P := Try.prog) w 30 30 ty 21 i0 hu hi0 pa 0 0 (Nat.le_refl _) (.slice a 0 c) (by rw [hz1]; exact hs)
      exact this
    · have hcell : ∀ j, j < p.cap → w.cell? ⟨g, off + j, none⟩ = cur[off + j]? := fun j _ => cell_of_row w g (off + j) cur 21 (0, 0) hg
      have hin : ∀ j, j < l.length → (w.cell? ⟨g, off + p.xs.length + j, none⟩).isSome = true := by
        intro j hj
        rw [Nat.add_assoc, hcell _ (by omega), Array.getElem?_eq_getElem (by omega)]
        rfl
      have hfr : ∀ j, w.frozen? ⟨g, j, none⟩ = false := fun j => by simp [World.frozen?, hg]
      have hr := run_append_room_src (P := Try.prog) w 30 30 ty 21 i0 hu hi0 g off p.xs.length p.cap _ l.length (runsV l) (by rw [hz1]; exact hs) hroom
        (by rw [hz1, runsV_len, Nat.mul_one]; exact hin) (by intro j _; exact hfr _)
      rw [hz1, Nat.mul_one] at hr
      refine ⟨⟨p.a, p.cap, p.xs ++ l⟩, w.setCells g (off + p.xs.length) (runsV l), ?_, ⟨by simpa using hroom, hmo, .inr ?_⟩, rfl, ?_, .inl rfl, fun _ => ⟨rfl, rfl⟩, fun h => absurd h (by omega)⟩
      · unfold PartR.val
        simp only [List.length_append]
        rw [ha]
        exact hr
      · obtain ⟨cur', h1, h2⟩ := setCells_block g (runsV l) (off + p.xs.length) w cur 21 hg
        refine ⟨g, off, cur', ha, hbb, h1, by rw [h2]; exact hsz, fun j x hj => ?_⟩
        rw [← cell_of_row _ g (off + j) cur' 21 (0, 0) h1]
        by_cases hjl : j < p.xs.length
        · rw [World.cell?_setCells_out g _ _ _ _ (fun _ _ => .inl (by simp; omega)), cell_of_row w g (off + j) cur 21 (0, 0) hg]
          simp only at hj
          rw [List.getElem?_append_left hjl] at hj
          exact hcs j x hj
        · simp only at hj
          rw [List.getElem?_append_right (by omega)] at hj
          have hlt := (List.getElem?_eq_some_iff.1 hj).1
          have := World.cell?_setCells_in g (runsV l) (off + p.xs.length) w (by rw [runsV_len]; exact hin) (j - p.xs.length) (by rw [runsV_len]; exact hlt)
          rw [show off + p.xs.length + (j - p.xs.length) = off + j by omega] at this
          rw [this]
          have h9 := runsV_at hj
          rw [List.getElem?_eq_getElem (by rw [runsV_len]; exact hlt)] at h9
          exact h9
      · obtain ⟨r1, r2, r3⟩ := setCells_rest g (runsV l) (off + p.xs.length) w
        by_cases hz : p.cap = 0
        · obtain rfl : l = [] := List.eq_nil_of_length_eq_zero (by omega)
          exact ⟨rfl, rfl, rfl, Nat.le_refl _, fun _ _ _ => rfl⟩
        · have ho : p.own = some g := by unfold PartR.own; rw [if_neg hz, ha]; rfl
          rw [ho]
          exact ⟨r1, r2, r3, by rw [setCells_size]; exact Nat.le_refl _, fun k _ hk => setCells_other g k (fun e => hk (by rw [e])) _ _ _⟩
  · have hold : (Builtin.firstCells i0.size p.xs.length (.slice p.a p.xs.length p.cap)).run Try.prog w.drew = .ok (runsV p.xs).toArray w.drew := by
      rw [hz1]
      exact ((hp.nums).src hu p.cap).cellsD
    have hr := run_append_grow_src (P := Try.prog) w 30 30 ty 21 i0 (.int .i32 0) hu hi0 hz0 p.a p.xs.length p.cap (runsV p.xs) hold _ l.length (runsV l) (by rw [hz1]; exact hs) (by omega) (by omega)
      (growslice_fits (by omega) (by rw [hz2]; omega))
    have hge := grownCap_ge w (p.xs.length + l.length) p.cap 21
    have hle := grownCap_le_maxLen w (p.xs.length + l.length) p.cap 21 (by unfold maxLen; omega)
    refine ⟨⟨some ⟨w.heap.size, 0, none⟩, grownCap w (p.xs.length + l.length) p.cap 21, p.xs ++ l⟩, w.drew.alloc (.cells ((runsV p.xs ++ runsV l).toArray ++ Builtin.zeroCells (Value.int .i32 0).cells (grownCap w (p.xs.length + l.length) p.cap 21 - (p.xs.length + l.length))) 21), ?_, ⟨by simpa using hge, hle, .inr ⟨w.heap.size, 0, _, rfl, hb, heap_alloc_new w.drew _, ?_, ?_⟩⟩, rfl, ?_, .inr ?_, fun h => absurd h hroom, fun _ => ⟨((Below.refl _ w).drew).alloc (by simp) _, ?_⟩⟩
    · unfold PartR.val
      simp only [List.length_append]
      exact hr
    · simp only [Array.size_append, List.size_toArray, size_zeroCells, List.length_append, runsV_len]
      simp [Value.cells]
      omega
    · intro j x hj
      simp only at hj
      have hlt := (List.getElem?_eq_some_iff.1 hj).1
      rw [Nat.zero_add, Array.getElem?_append_left (by simp only [List.size_toArray, List.length_append, runsV_len] at hlt ⊢; exact hlt)]
      simp only [List.getElem?_toArray]
      have : runsV p.xs ++ runsV l = runsV (p.xs ++ l) := by simp [runsV]
      rw [this]
      exact runsV_at hj
    · exact ⟨rfl, rfl, rfl, by simp, fun k hk _ => heap_alloc_old w.drew _ hk⟩
    · unfold PartR.own
      rw [if_neg (by simp only; omega)]
      rfl
    · unfold PartR.own
      rw [if_neg (by simp only; omega)]
      rfl

theorem wpList_partR_append {w : World} {base : Nat} {p : PartR} {ops : Array Oper} {rest : List Oper} {o : Oper} {act : Act} {Q : Exit → Act → World → Prop} (hgd : o.guard = none) (s x : Operand)
    (ho : o.op = .call { callee := .builtin .append, args := #[s, x], argTypes := #[30, 30] }) (hs : act.eval s = p.val) (a : Option Addr) (l : List Int) (c : Nat) (hx : act.eval x = .slice a l.length c)
    (hp : PartRA w base p) (hb : base ≤ w.heap.size) (hl : RunsIn w a l) (hm : p.xs.length + l.length ≤ 1000000000)
    (h : ∀ p' w', PartRA w' base p' → p'.xs = p.xs ++ l → w.grownBy w' p.own → (p'.own = p.own ∨ p'.own = some w.heap.size) → (p.xs.length + l.length ≤ p.cap → p'.own = p.own ∧ p'.cap = p.cap) → wpList Try.prog ops Q rest (act.put o.dst p'.val) w') :
    wpList Try.prog ops Q (o :: rest) act w := by
  obtain ⟨p', w', hr, h1, h2, h3, h4, h5, _⟩ := partR_append hp hb o.type a l c hl hm
  exact Lib.wpList_append_run w hgd s x 30 30 ho _ _ hs hx _ _ hr (h p' w' h1 h2 h3 h4 h5)

/-- Where there is no room. -/
theorem wpList_partR_full {w : World} {base : Nat} {p : PartR} {ops : Array Oper} {rest : List Oper} {o : Oper} {act : Act} {Q : Exit → Act → World → Prop} (hgd : o.guard = none) (s x : Operand)
    (ho : o.op = .call { callee := .builtin .append, args := #[s, x], argTypes := #[30, 30] }) (hs : act.eval s = p.val) (a : Option Addr) (l : List Int) (n c : Nat) (hn : l.length = n) (hx : act.eval x = .slice a n c)
    (hp : PartRA w base p) (hb : base ≤ w.heap.size) (hl : RunsIn w a l) (hm : p.xs.length + l.length ≤ 1000000000) (hf : p.cap < p.xs.length + l.length)
    (h : ∀ p' w', PartRA w' base p' → p'.xs = p.xs ++ l → Below w.heap.size w w' → p'.own = some w.heap.size → wpList Try.prog ops Q rest (act.put o.dst p'.val) w') :
    wpList Try.prog ops Q (o :: rest) act w := by
  subst hn
  obtain ⟨p', w', hr, h1, h2, h3, h4, h5, h6⟩ := partR_append hp hb o.type a l c hl hm
  exact Lib.wpList_append_run w hgd s x 30 30 ho _ _ hs hx _ _ hr (h p' w' h1 h2 (h6 hf).1 (h6 hf).2)

theorem one_run (w : World) (c : Int) : RunsIn (w.alloc (.cells #[.int .i32 c] 21)) (some ⟨w.heap.size, 0, none⟩) [c] := by
  intro i x hi
  match i, hi with
  | 0, hi => simp at hi; subst hi; exact ⟨_, _, rfl, cell_of_one (heap_alloc_new w _)⟩

/-- Whatever the room is, its cells can be read. -/
theorem PartRA.cellsAll {w : World} {base : Nat} {p : PartR} (h : PartRA w base p) (hc : 0 < p.cap) : ∃ g off cur, p.a = some ⟨g, off, none⟩ ∧ base ≤ g ∧ w.heap[g]? = some (.cells cur 21 (0, 0)) ∧ off + p.cap ≤ cur.size ∧ (∀ j x, p.xs[j]? = some x → cur[off + j]? = some (.int .i32 x)) := by
  rcases h.lies with h0 | h
  · omega
  · exact h
end Go.Proofs.Ytgmlngmfocdmhaa
