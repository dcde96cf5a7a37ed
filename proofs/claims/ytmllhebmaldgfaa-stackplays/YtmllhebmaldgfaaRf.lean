import Derived.Test.YtmllhebmaldgfaaPl
/-
  How the document's own arena lies in memory: a row of nodes, each with a list of attributes and one of children that nothing writes to again.
-/
namespace Go.Proofs.Ytmllhebmaldgfaa
open Go.RowKit

structure OneR where
  o : OneM
  av : Value
  kv : Value

def OneR.cells (r : OneR) : List Value :=
  [.int .i64 r.o.kind, .int .i64 r.o.space, .string r.o.name, r.av, .string r.o.data, .string r.o.system, .int .i64 r.o.inner, .int .i64 r.o.host, .int .i64 r.o.up, r.kv]
def oneRow (l : List OneR) : List Value := l.flatMap OneR.cells
theorem one_len (r : OneR) : r.cells.length = 10 := rfl

/-- Numbers that lie in a row. -/
structure IntsIn (w : World) (a : Option Addr) (l : List Nat) : Prop where
  cells : ∀ (i : Nat) x, l[i]? = some x → ∃ b off, a = some ⟨b, off, none⟩ ∧ w.cell? ⟨b, off + i, none⟩ = some (.int .i64 ((x : Nat) : Int))

/-- The block that a slice lies in. -/
def blk : Value → Option Nat
  | .slice (some a) _ _ => some a.block
  | _ => none

structure Rf (w : World) (base bR g cap : Nat) (rs : List OneR) : Prop where
  arena : w.heap[bR]? = some (.cells #[.slice (some ⟨g, 0, none⟩) rs.length cap] 132 (0, 0))
  row : w.ownsRow base 129 10 (.slice (some ⟨g, 0, none⟩) rs.length cap) rs.length (oneRow rs)
  lo : base ≤ bR
  pos : 0 < rs.length
  most : rs.length ≤ 32768
  attrs : ∀ (i : Nat) r, rs[i]? = some r → ∃ a cp, r.av = .slice a r.o.attrs.length cp ∧ AttrsIn w a r.o.attrs ∧ r.o.attrs.length ≤ 1024 ∧ r.o.attrs.length ≤ cp
  kids : ∀ (i : Nat) r, rs[i]? = some r → ∃ a cp, r.kv = .slice a r.o.kids.length cp ∧ IntsIn w a r.o.kids ∧ r.o.kids.length ≤ 32768
  held : ∀ (i : Nat) r, rs[i]? = some r → ∀ k, (blk r.av = some k ∨ blk r.kv = some k) → base ≤ k ∧ k < w.heap.size ∧ k ≠ bR ∧ k ≠ g

def osOf (rs : List OneR) : List OneM := rs.map (·.o)
theorem osOf_get {rs : List OneR} {i : Nat} {r : OneR} (h : rs[i]? = some r) : (osOf rs)[i]? = some r.o := by simp [osOf, h]
theorem osOf_len (rs : List OneR) : (osOf rs).length = rs.length := by simp [osOf]

/-- The blocks of such an arena. -/
def footR (bR g : Nat) (rs : List OneR) (k : Nat) : Prop := k = bR ∨ k = g ∨ ∃ r ∈ rs, blk r.av = some k ∨ blk r.kv = some k

theorem IntsIn.mod {w w' : World} {a : Option Addr} {l : List Nat} (h : IntsIn w a l) (hb : ∀ b off, a = some ⟨b, off, none⟩ → w'.heap[b]? = w.heap[b]?) : IntsIn w' a l := ⟨fun i x hi => by
  obtain ⟨b, off, e, hc⟩ := h.cells i x hi
  exact ⟨b, off, e, (World.cell?_of_block (w := w) (hb b off e)).trans hc⟩⟩
theorem AttrsIn.mod {w w' : World} {a : Option Addr} {l : List AttrM} (h : AttrsIn w a l) (hb : ∀ b off, a = some ⟨b, off, none⟩ → w'.heap[b]? = w.heap[b]?) : AttrsIn w' a l := ⟨fun i x hi => by
  obtain ⟨b, off, e, c0, c1, c2, c3⟩ := h.cells i x hi
  have hc := fun (j : Nat) => World.cell?_of_block (w := w) (w' := w') (a := ⟨b, j, none⟩) (hb b off e)
  exact ⟨b, off, e, (hc _).trans c0, (hc _).trans c1, (hc _).trans c2, (hc _).trans c3⟩⟩

section
variable {w w' : World} {base bR g cap : Nat} {rs : List OneR}

theorem Rf.cR (h : Rf w base bR g cap rs) : w.cell? ⟨bR, 0, none⟩ = some (.slice (some ⟨g, 0, none⟩) rs.length cap) := cell_of_one h.arena
theorem Rf.fR (h : Rf w base bR g cap rs) : w.frozen? ⟨bR, 0, none⟩ = false := free_of_one h.arena
theorem Rf.fg (h : Rf w base bR g cap rs) (j : Nat) : w.frozen? ⟨g, j, none⟩ = false := h.row.frozenAt j
theorem Rf.cell (h : Rf w base bR g cap rs) {i : Nat} {r : OneR} (hi : rs[i]? = some r) (j : Nat) (hj : j < 10) : w.cell? ⟨g, i * 10 + j, none⟩ = r.cells[j]? := by
  have hlt : i < rs.length := (List.getElem?_eq_some_iff.1 hi).1
  rw [h.row.cellAt (i * 10 + j) (by omega), oneRow, flat_get OneR.cells 10 one_len rs i j hj, hi]; rfl
theorem Rf.cells10 (h : Rf w base bR g cap rs) {i : Nat} {r : OneR} (hi : rs[i]? = some r) :
    w.cell? ⟨g, i * 10, none⟩ = some (.int .i64 r.o.kind) ∧ w.cell? ⟨g, i * 10 + 1, none⟩ = some (.int .i64 r.o.space) ∧ w.cell? ⟨g, i * 10 + 2, none⟩ = some (.string r.o.name) ∧
    w.cell? ⟨g, i * 10 + 3, none⟩ = some r.av ∧ w.cell? ⟨g, i * 10 + 4, none⟩ = some (.string r.o.data) ∧ w.cell? ⟨g, i * 10 + 5, none⟩ = some (.string r.o.system) ∧
    w.cell? ⟨g, i * 10 + 6, none⟩ = some (.int .i64 r.o.inner) ∧ w.cell? ⟨g, i * 10 + 7, none⟩ = some (.int .i64 r.o.host) ∧ w.cell? ⟨g, i * 10 + 8, none⟩ = some (.int .i64 r.o.up) ∧ w.cell? ⟨g, i * 10 + 9, none⟩ = some r.kv :=
  ⟨h.cell hi 0 (by omega), h.cell hi 1 (by omega), h.cell hi 2 (by omega), h.cell hi 3 (by omega), h.cell hi 4 (by omega), h.cell hi 5 (by omega), h.cell hi 6 (by omega), h.cell hi 7 (by omega), h.cell hi 8 (by omega), h.cell hi 9 (by omega)⟩
theorem Rf.blockg (h : Rf w base bR g cap rs) : ∃ cur, w.heap[g]? = some (.cells cur 129 (0, 0)) := by
  rcases h.row.2 with ⟨h', _⟩ | ⟨g', cap', cur, h', _, hg, _⟩
  · simp at h'
  · simp only [Value.slice.injEq, Option.some.injEq, Addr.mk.injEq, and_true, true_and] at h'
    obtain ⟨rfl, rfl⟩ := h'
    exact ⟨cur, hg⟩
theorem Rf.neRg (h : Rf w base bR g cap rs) : bR ≠ g := by
  obtain ⟨cur, hg⟩ := h.blockg
  intro e; subst e; have := h.arena; rw [hg] at this; simp at this
theorem Rf.lt (h : Rf w base bR g cap rs) : bR < w.heap.size ∧ g < w.heap.size := by
  obtain ⟨cur, hg⟩ := h.blockg
  exact ⟨lt_of_block h.arena, lt_of_block hg⟩
theorem Rf.base_g (h : Rf w base bR g cap rs) : base ≤ g := by
  rcases h.row.2 with ⟨h', _⟩ | ⟨g', cap', cur, h', hb, hg, _⟩
  · simp at h'
  · simp only [Value.slice.injEq, Option.some.injEq, Addr.mk.injEq, and_true, true_and] at h'
    obtain ⟨rfl, rfl⟩ := h'
    first | exact hb | exact hb.1 | omega
theorem Rf.foot_lt (h : Rf w base bR g cap rs) {k : Nat} (hk : footR bR g rs k) : base ≤ k ∧ k < w.heap.size := by
  rcases hk with rfl | rfl | ⟨r, hr, hk⟩
  · exact ⟨h.lo, h.lt.1⟩
  · exact ⟨h.base_g, h.lt.2⟩
  · obtain ⟨i, hi⟩ := List.mem_iff_getElem?.1 hr
    have := h.held i r hi k hk
    exact ⟨this.1, this.2.1⟩
theorem Rf.same (h : Rf w base bR g cap rs) (hk : ∀ k, footR bR g rs k → w'.heap[k]? = w.heap[k]?) (hsz : w.heap.size ≤ w'.heap.size) : Rf w' base bR g cap rs := by
  refine ⟨(hk bR (.inl rfl)).trans h.arena, ownsRow_kept h.row (fun k e => ?_), h.lo, h.pos, h.most, fun i r hi => ?_, fun i r hi => ?_, fun i r hi k e => ?_⟩
  · simp [Value.ownBlock] at e; subst e; exact hk _ (.inr (.inl rfl))
  · obtain ⟨a, cp, e, ha, hl⟩ := h.attrs i r hi
    exact ⟨a, cp, e, ha.mod (fun b off eb => hk b (.inr (.inr ⟨r, List.mem_of_getElem? hi, .inl (by rw [e, eb]; rfl)⟩))), hl⟩
  · obtain ⟨a, cp, e, ha, hl⟩ := h.kids i r hi
    exact ⟨a, cp, e, ha.mod (fun b off eb => hk b (.inr (.inr ⟨r, List.mem_of_getElem? hi, .inr (by rw [e, eb]; rfl)⟩))), hl⟩
  · obtain ⟨h1, h2, h3⟩ := h.held i r hi k e
    exact ⟨h1, by omega, h3⟩
theorem Rf.below (h : Rf w base bR g cap rs) (hb : Below w.heap.size w w') : Rf w' base bR g cap rs :=
  h.same (fun k hk => hb.block k (h.foot_lt hk).2) hb.size
theorem Rf.mod (h : Rf w base bR g cap rs) {F : Nat → Prop} (hm : Mod F w w') (hF : ∀ k, footR bR g rs k → ¬ F k) : Rf w' base bR g cap rs :=
  h.same (fun k hk => hm.block k (h.foot_lt hk).2 (hF k hk)) hm.size
theorem Rf.alloc (h : Rf w base bR g cap rs) (o : Obj) : Rf (w.alloc o) base bR g cap rs := h.below ((Below.refl _ w).alloc (Nat.le_refl _) o)

theorem refIs_any (h : Rf w base bR g cap rs) (k : Int) : Calls Try.prog 89 #[.pointer (some ⟨bR, 0, none⟩), .int .i64 k] w fun e w' => e = .returned (.bool (hasO (osOf rs) k)) ∧ w = w' := by
  have hA := h.cR
  have hn := h.most
  have hl := osOf_len rs
  unfold hasO
  rw [hl]
  clear h hl
  go_enter Try.func89, Try.ntmps89
  go_wp2
  all_goals go_ret
  · refine ⟨?_, rfl⟩
    have h0 : 0 ≤ k := by assumption
    simp [h0]
  · refine ⟨?_, rfl⟩
    have h0 : k < 0 := by assumption
    simp; omega

end
end Go.Proofs.Ytmllhebmaldgfaa
