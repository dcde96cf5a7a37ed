/-
   
-/
import Derived.Test.YtmnmaenmoaehlaaGreatDoorSZad
import Derived.Deep.LoopGhost
import Derived.Deep.QuietTactic
import Derived.BigQuiet
import Derived.Deep.RegionWith
namespace Go.Proofs.YtmnmaenmoaehlaaGreatDoor
open Go.RowKit

structure OneR where
  o : OneM
  av : Value
  kv : Value

def OneR.cells (r : OneR) : List Value :=
  [.int .i64 r.o.kind, .int .i64 r.o.space, .string r.o.name, r.av, .string r.o.data, .string r.o.system, .int .i64 r.o.inner, .int .i64 r.o.host, .int .i64 r.o.up, r.kv]
def oneRow (l : List OneR) : List Value := l.flatMap OneR.cells
theorem one_len (r : OneR) : r.cells.length = 10 := rfl

/-- Numbers that lie in a row. -/
structure IntsIn (w : World) (a : Option Addr) (l : List Nat) : Prop where
  cells : ∀ (i : Nat) x, l[i]? = some x → ∃ b off, a = some ⟨b, off, none⟩ ∧ w.cell? ⟨b, off + i, none⟩ = some (.int .i64 ((x : Nat) : Int))

/-- The block that a slice lies in. -/
def blk : Value → Option Nat
  | .slice (some a) _ _ => some a.block
  | _ => none

structure Rf (w : World) (base bR g cap : Nat) (rs : List OneR) : Prop where
  arena : w.heap[bR]? = some (.cells #[.slice (some ⟨g, 0, none⟩) rs.length cap] 61 (0, 0))
  row : w.ownsRow base 58 10 (.slice (some ⟨g, 0, none⟩) rs.length cap) rs.length (oneRow rs)
  lo : base ≤ bR
  pos : 0 < rs.length
  most : rs.length ≤ 32768
  attrs : ∀ (i : Nat) r, rs[i]? = some r → ∃ a cp, r.av = .slice a r.o.attrs.length cp ∧ AttrsIn w a r.o.attrs ∧ r.o.attrs.length ≤ 1024 ∧ r.o.attrs.length ≤ cp
  kids : ∀ (i : Nat) r, rs[i]? = some r → ∃ a cp, r.kv = .slice a r.o.kids.length cp ∧ IntsIn w a r.o.kids ∧ r.o.kids.length ≤ 32768
  held : ∀ (i : Nat) r, rs[i]? = some r → ∀ k, (blk r.av = some k ∨ blk r.kv = some k) → base ≤ k ∧ k < w.heap.size ∧ k ≠ bR ∧ k ≠ g

def osOf (rs : List OneR) : List OneM := rs.map (·.o)
theorem osOf_get {rs : List OneR} {i : Nat} {r : OneR} (h : rs[i]? = some r) : (osOf rs)[i]? = some r.o := by simp [osOf, h]
theorem osOf_len (rs : List OneR) : (osOf rs).length = rs.length := by simp [osOf]

/-- The blocks of such an arena. -/
def footR (bR g : Nat) (rs : List OneR) (k : Nat) : Prop := k = bR ∨ k = g ∨ ∃ r ∈ rs, blk r.av = some k ∨ blk r.kv = some k

theorem IntsIn.mod {w w' : World} {a : Option Addr} {l : List Nat} (h : IntsIn w a l) (hb : ∀ b off, a = some ⟨b, off, none⟩ → w'.heap[b]? = w.heap[b]?) : IntsIn w' a l := ⟨fun i x hi => by
  obtain ⟨b, off, e, hc⟩ := h.cells i x hi
  exact ⟨b, off, e, (World.cell?_of_block (w := w) (hb b off e)).trans hc⟩⟩
theorem AttrsIn.mod {w w' : World} {a : Option Addr} {l : List AttrM} (h : AttrsIn w a l) (hb : ∀ b off, a = some ⟨b, off, none⟩ → w'.heap[b]? = w.heap[b]?) : AttrsIn w' a l := ⟨fun i x hi => by
  obtain ⟨b, off, e, c0, c1, c2, c3⟩ := h.cells i x hi
  have hc := fun (j : Nat) => World.cell?_of_block (w := w) (w' := w') (a := ⟨b, j, none⟩) (hb b off e)
  exact ⟨b, off, e, (hc _).trans c0, (hc _).trans c1, (hc _).trans c2, (hc _).trans c3⟩⟩

section
variable {w w' : World} {base bR g cap : Nat} {rs : List OneR}

theorem Rf.cR (h : Rf w base bR g cap rs) : w.cell? ⟨bR, 0, none⟩ = some (.slice (some ⟨g, 0, none⟩) rs.length cap) := cell_of_one h.arena
theorem Rf.fR (h : Rf w base bR g cap rs) : w.frozen? ⟨bR, 0, none⟩ = false := free_of_one h.arena
theorem Rf.fg (h : Rf w base bR g cap rs) (j : Nat) : w.frozen? ⟨g, j, none⟩ = false := h.row.frozenAt j
theorem Rf.cell (h : Rf w base bR g cap rs) {i : Nat} {r : OneR} (hi : rs[i]? = some r) (j : Nat) (hj : j < 10) : w.cell? ⟨g, i * 10 + j, none⟩ = r.cells[j]? := by
  have hlt : i < rs.length := (List.getElem?_eq_some_iff.1 hi).1
  rw [h.row.cellAt (i * 10 + j) (by omega), oneRow, flat_get OneR.cells 10 one_len rs i j hj, hi]; rfl
theorem Rf.cells10 (h : Rf w base bR g cap rs) {i : Nat} {r : OneR} (hi : rs[i]? = some r) :
    w.cell? ⟨g, i * 10, none⟩ = some (.int .i64 r.o.kind) ∧ w.cell? ⟨g, i * 10 + 1, none⟩ = some (.int .i64 r.o.space) ∧ w.cell? ⟨g, i * 10 + 2, none⟩ = some (.string r.o.name) ∧
    w.cell? ⟨g, i * 10 + 3, none⟩ = some r.av ∧ w.cell? ⟨g, i * 10 + 4, none⟩ = some (.string r.o.data) ∧ w.cell? ⟨g, i * 10 + 5, none⟩ = some (.string r.o.system) ∧
    w.cell? ⟨g, i * 10 + 6, none⟩ = some (.int .i64 r.o.inner) ∧ w.cell? ⟨g, i * 10 + 7, none⟩ = some (.int .i64 r.o.host) ∧ w.cell? ⟨g, i * 10 + 8, none⟩ = some (.int .i64 r.o.up) ∧ w.cell? ⟨g, i * 10 + 9, none⟩ = some r.kv :=
  ⟨h.cell hi 0 (by omega), h.cell hi 1 (by omega), h.cell hi 2 (by omega), h.cell hi 3 (by omega), h.cell hi 4 (by omega), h.cell hi 5 (by omega), h.cell hi 6 (by omega), h.cell hi 7 (by omega), h.cell hi 8 (by omega), h.cell hi 9 (by omega)⟩
theorem Rf.blockg (h : Rf w base bR g cap rs) : ∃ cur, w.heap[g]? = some (.cells cur 58 (0, 0)) := by
  rcases h.row.2 with ⟨h', _⟩ | ⟨g', cap', cur, h', _, hg, _⟩
  · simp at h'
  · simp only [Value.slice.injEq, Option.some.injEq, Addr.mk.injEq, and_true, true_and] at h'
    obtain ⟨rfl, rfl⟩ := h'
    exact ⟨cur, hg⟩
theorem Rf.neRg (h : Rf w base bR g cap rs) : bR ≠ g := by
  obtain ⟨cur, hg⟩ := h.blockg
  intro e; subst e; have := h.arena; rw [hg] at this; simp at this
theorem Rf.lt (h : Rf w base bR g cap rs) : bR < w.heap.size ∧ g < w.heap.size := by
  obtain ⟨cur, hg⟩ := h.blockg
  exact ⟨lt_of_block h.arena, lt_of_block hg⟩
theorem Rf.base_g (h : Rf w base bR g cap rs) : base ≤ g := by
  rcases h.row.2 with ⟨h', _⟩ | ⟨g', cap', cur, h', hb, hg, _⟩
  · simp at h'
  · simp only [Value.slice.injEq, Option.some.injEq, Addr.mk.injEq, and_true, true_and] at h'
    obtain ⟨rfl, rfl⟩ := h'
    first | exact hb | exact hb.1 | omega
theorem Rf.foot_lt (h : Rf w base bR g cap rs) {k : Nat} (hk : footR bR g rs k) : base ≤ k ∧ k < w.heap.size := by
  rcases hk with rfl | rfl | ⟨r, hr, hk⟩
  · exact ⟨h.lo, h.lt.1⟩
  · exact ⟨h.base_g, h.lt.2⟩
  · obtain ⟨i, hi⟩ := List.mem_iff_getElem?.1 hr
    have := h.held i r hi k hk
    exact ⟨this.1, this.2.1⟩
theorem Rf.same (h : Rf w base bR g cap rs) (hk : ∀ k, footR bR g rs k → w'.heap[k]? = w.heap[k]?) (hsz : w.heap.size ≤ w'.heap.size) : Rf w' base bR g cap rs := by
  refine ⟨(hk bR (.inl rfl)).trans h.arena, ownsRow_kept h.row (fun k e => ?_), h.lo, h.pos, h.most, fun i r hi => ?_, fun i r hi => ?_, fun i r hi k e => ?_⟩
  · simp [Value.ownBlock] at e; subst e; exact hk _ (.inr (.inl rfl))
  · obtain ⟨a, cp, e, ha, hl⟩ := h.attrs i r hi
    exact ⟨a, cp, e, ha.mod (fun b off eb => hk b (.inr (.inr ⟨r, List.mem_of_getElem? hi, .inl (by rw [e, eb]; rfl)⟩))), hl⟩
  · obtain ⟨a, cp, e, ha, hl⟩ := h.kids i r hi
    exact ⟨a, cp, e, ha.mod (fun b off eb => hk b (.inr (.inr ⟨r, List.mem_of_getElem? hi, .inr (by rw [e, eb]; rfl)⟩))), hl⟩
  · obtain ⟨h1, h2, h3⟩ := h.held i r hi k e
    exact ⟨h1, by omega, h3⟩
theorem Rf.below (h : Rf w base bR g cap rs) (hb : Below w.heap.size w w') : Rf w' base bR g cap rs :=
  h.same (fun k hk => hb.block k (h.foot_lt hk).2) hb.size
theorem Rf.mod (h : Rf w base bR g cap rs) {F : Nat → Prop} (hm : Mod F w w') (hF : ∀ k, footR bR g rs k → ¬ F k) : Rf w' base bR g cap rs :=
  h.same (fun k hk => hm.block k (h.foot_lt hk).2 (hF k hk)) hm.size
theorem Rf.alloc (h : Rf w base bR g cap rs) (o : Obj) : Rf (w.alloc o) base bR g cap rs := h.below ((Below.refl _ w).alloc (Nat.le_refl _) o)

theorem refIs_any (h : Rf w base bR g cap rs) (k : Int) : Calls Tryz.prog 42 #[.pointer (some ⟨bR, 0, none⟩), .int .i64 k] w fun e w' => e = .returned (.bool (hasO (osOf rs) k)) ∧ w = w' := by
  have hA := h.cR
  have hn := h.most
  have hl := osOf_len rs
  unfold hasO
  rw [hl]
  clear h hl
  go_enter Tryz.func42, Tryz.ntmps42
  go_wp2
  all_goals go_ret
  · refine ⟨?_, rfl⟩
    have h0 : 0 ≤ k := by assumption
    simp [h0]
  · refine ⟨?_, rfl⟩
    have h0 : k < 0 := by assumption
    simp; omega

end
end Go.Proofs.YtmnmaenmoaehlaaGreatDoor

namespace Go.Proofs.YtmnmaenmoaehlaaGreatDoor
open Go.RowKit

section
variable {w : World} {base bR g cap : Nat} {rs : List OneR}

theorem refLong_any (w : World) (b cp : Nat) (ss : List ByteArray) (hc : ∀ j s, ss[j]? = some s → w.cell? ⟨b, j, none⟩ = some (.string s)) (hl : ss.length ≤ 1000) :
    Calls Tryz.prog 37 #[.slice (some ⟨b, 0, none⟩) ss.length cp] w fun e w' => e = .returned (.bool (ss.any longS)) ∧ w = w' := by
  have HC := hide hc
  clear hc
  go_enter Tryz.func37, Tryz.ntmps37
  go_wp2
  go_loopg [3] ss.length (fun k s2 wx => ∃ i : Nat, s2 = .int .i64 i ∧ i + k = ss.length ∧ (∀ j s, j < i → ss[j]? = some s → longS s = false) ∧ wx = w)
  case atStart => exact ⟨0, rfl, by omega, fun j s hj => by omega, rfl⟩
  case round =>
    obtain ⟨i, rfl, hik, hall, rfl⟩ := hrel
    have HA := hide hall
    clear hall
    by_cases hi : i < ss.length
    · have hs : ss[i]? = some ss[i] := List.getElem?_eq_getElem hi
      generalize ss[i] = s at hs
      have hcs := (unhide HC) i s hs
      have hiz : (i : Int) < (ss.length : Int) := by omega
      by_cases hlong : 1048576 < s.size
      · have hlz : (1048576 : Int) < (s.size : Int) := by omega
        go_wp2
        go_ret
        refine ⟨?_, rfl⟩
        have : ss.any longS = true := List.any_eq_true.2 ⟨s, List.mem_of_getElem? hs, by simp [longS, hlong]⟩
        rw [this]; rfl
      · have hlz : ¬ (1048576 : Int) < (s.size : Int) := by omega
        go_wp2
        go_roundg (gk - 1)
        case measure => omega
        case rel => exact ⟨i + 1, by go_num, by omega, none_long ss i s hs (unhide HA) (by simp [longS]; omega), rfl⟩
    · have hiz : ¬ (i : Int) < (ss.length : Int) := by omega
      go_wp2
      go_ret
      refine ⟨?_, rfl⟩
      have : ss.any longS = false := any_long_no (fun j s hj hs => (unhide HA) j s (by omega) hs)
      rw [this]; rfl

end
end Go.Proofs.YtmnmaenmoaehlaaGreatDoor

namespace Go.Proofs.YtmnmaenmoaehlaaGreatDoor
open Go.RowKit

section
variable {w : World} {base bR g cap : Nat} {rs : List OneR}

theorem ints_oneCell (l : List Nat) : ∀ u ∈ intsV l, u.oneCell' = true := by
  intro u hu
  obtain ⟨x, _, rfl⟩ := List.mem_map.1 hu
  rfl

theorem IntsIn.row {w : World} {b off : Nat} {l : List Nat} (h : IntsIn w (some ⟨b, off, none⟩) l) : ∀ j v, (intsV l)[j]? = some v → w.cell? ((⟨b, off, none⟩ : Addr).add j) = some v := by
  intro j v hv
  have hadd : (⟨b, off, none⟩ : Addr).add j = ⟨b, off + j, none⟩ := by unfold Addr.add; split <;> simp_all
  rw [hadd]
  simp only [intsV, List.getElem?_map, Option.map_eq_some_iff] at hv
  obtain ⟨x, hx, rfl⟩ := hv
  obtain ⟨b', off', e, hc⟩ := h.cells j x hx
  simp only [Option.some.injEq, Addr.mk.injEq, and_true] at e
  obtain ⟨rfl, rfl⟩ := e
  exact hc
theorem IntsIn.at {w : World} {a : Option Addr} {l : List Nat} (h : IntsIn w a l) (hl : 0 < l.length) : ∃ b off, a = some ⟨b, off, none⟩ := by
  obtain ⟨b, off, e, _⟩ := h.cells 0 l[0] (List.getElem?_eq_getElem hl)
  exact ⟨b, off, e⟩

theorem IntsIn.below {w w' : World} {a : Option Addr} {l : List Nat} (h : IntsIn w a l) (hb : Below w.heap.size w w') : IntsIn w' a l := ⟨fun i x hi => by
  obtain ⟨b, off, e, hc⟩ := h.cells i x hi
  exact ⟨b, off, e, (hb.cell (p := ⟨b, off + i, none⟩) (World.block_lt_of_cell? w _ hc)).trans hc⟩⟩
theorem empty_row (w : World) (e size base : Nat) (hb : base ≤ w.heap.size) : (w.alloc (.cells #[] e)).ownsRow base e size (.slice (some ⟨w.heap.size, 0, none⟩) 0 0) 0 [] := by
  have := World.ownsRow_lit (base := base) (e := e) (size := size) w #[] 0 hb (by simp [maxLen]) (by simp)
  simpa using this

end
end Go.Proofs.YtmnmaenmoaehlaaGreatDoor

namespace Go.Proofs.YtmnmaenmoaehlaaGreatDoor
open Go.RowKit

/-- What a node's two lists must be. -/
structure Lists (w : World) (base bR g : Nat) (r : OneR) : Prop where
  attrs : ∃ a cp, r.av = .slice a r.o.attrs.length cp ∧ AttrsIn w a r.o.attrs ∧ r.o.attrs.length ≤ 1024 ∧ r.o.attrs.length ≤ cp
  kids : ∃ a cp, r.kv = .slice a r.o.kids.length cp ∧ IntsIn w a r.o.kids ∧ r.o.kids.length ≤ 32768
  held : ∀ k, (blk r.av = some k ∨ blk r.kv = some k) → base ≤ k ∧ k < w.heap.size ∧ k ≠ bR ∧ k ≠ g

section
variable {w w' : World} {base bR g cap : Nat} {rs : List OneR}

theorem Rf.lists (h : Rf w base bR g cap rs) {i : Nat} {r : OneR} (hi : rs[i]? = some r) : Lists w base bR g r := ⟨h.attrs i r hi, h.kids i r hi, h.held i r hi⟩
theorem Lists.mod {r : OneR} (h : Lists w base bR g r) (hsz : w.heap.size ≤ w'.heap.size) (hk : ∀ k, k < w.heap.size → k ≠ bR → k ≠ g → w'.heap[k]? = w.heap[k]?) : Lists w' base bR g r := by
  refine ⟨?_, ?_, fun k e => ?_⟩
  · obtain ⟨a, cp, e, ha, hl⟩ := h.attrs
    refine ⟨a, cp, e, ha.mod (fun b off eb => ?_), hl⟩
    obtain ⟨_, h2, h3, h4⟩ := h.held b (.inl (by rw [e, eb]; rfl))
    exact hk b h2 h3 h4
  · obtain ⟨a, cp, e, ha, hl⟩ := h.kids
    refine ⟨a, cp, e, ha.mod (fun b off eb => ?_), hl⟩
    obtain ⟨_, h2, h3, h4⟩ := h.held b (.inr (by rw [e, eb]; rfl))
    exact hk b h2 h3 h4
  · obtain ⟨h1, h2, h3⟩ := h.held k e
    exact ⟨h1, by omega, h3⟩
theorem Lists.other {r : OneR} (h : Lists w base bR g r) {g' : Nat} (hg : ∀ k, (blk r.av = some k ∨ blk r.kv = some k) → k ≠ g') : Lists w base bR g' r :=
  ⟨h.attrs, h.kids, fun k e => by obtain ⟨h1, h2, h3, _⟩ := h.held k e; exact ⟨h1, h2, h3, hg k e⟩⟩

theorem Rf.put (h : Rf w base bR g cap rs) {i : Nat} {r r' : OneR} (hi : rs[i]? = some r) (hrow : w'.ownsRow base 58 10 (.slice (some ⟨g, 0, none⟩) rs.length cap) rs.length (oneRow (rs.set i r'))) (hm : Mod (fun k => k = g) w w') (hl : Lists w' base bR g r') : Rf w' base bR g cap (rs.set i r') := by
  have hlt : i < rs.length := (List.getElem?_eq_some_iff.1 hi).1
  have old : ∀ (a : Nat) (x : OneR), (rs.set i r')[a]? = some x → Lists w' base bR g x := by
    intro a x hx
    by_cases e : i = a
    · subst e; rw [List.getElem?_set_self hlt] at hx; cases hx; exact hl
    · rw [List.getElem?_set_ne e] at hx
      exact (h.lists hx).mod hm.size (fun k hk _ hg => hm.block k hk hg)
  refine ⟨by rw [List.length_set, hm.block bR h.lt.1 h.neRg]; exact h.arena, by rw [List.length_set]; exact hrow, h.lo, by simpa using h.pos, by simpa using h.most, fun a x hx => (old a x hx).attrs, fun a x hx => (old a x hx).kids, fun a x hx => (old a x hx).held⟩

theorem Rf.setC (h : Rf w base bR g cap rs) {i : Nat} {r r' : OneR} (hi : rs[i]? = some r) (j : Nat) (hj : j < 10) (v : Value) (hc : r'.cells = r.cells.set j v) (hl : Lists w base bR g r') :
    Rf (w.setCell ⟨g, i * 10 + j, none⟩ v) base bR g cap (rs.set i r') := by
  have hst := h.row.stored (i * 10 + j) v
  refine h.put hi ?_ (Mod.setCell (F := fun k => k = g) w ⟨g, i * 10 + j, none⟩ v rfl) (hl.mod ?_ (fun k _ _ hg => Below.heap_setCell _ _ _ _ hg))
  · rw [oneRow, ← flat_set OneR.cells 10 one_len rs i j hj r r' v hi hc]; exact hst.1
  · exact (Mod.setCell (F := fun k => k = g) w ⟨g, i * 10 + j, none⟩ v rfl).size

theorem Rf.there (h : Rf w base bR g cap rs) {i : Nat} {r : OneR} (hi : rs[i]? = some r) (j : Nat) (hj : j < 10) : ∃ v, w.cell? ⟨g, i * 10 + j, none⟩ = some v := by
  rw [h.cell hi j hj]
  exact ⟨_, List.getElem?_eq_getElem (by rw [one_len]; exact hj)⟩

theorem Rf.grow {w1 : World} {g' cap' : Nat} (h : Rf w base bR g cap rs) (r : OneR) (hr : Lists w base bR g r) (hlen : rs.length + 1 ≤ 32768)
    (hown : w1.ownsRow base 58 10 (.slice (some ⟨g', 0, none⟩) (rs.length + 1) cap') (rs.length + 1) (oneRow rs ++ r.cells)) (hgrow : w.grownBy w1 (some g)) (hg' : g' = g ∨ w.heap.size ≤ g') :
    Rf (w1.setCell ⟨bR, 0, none⟩ (.slice (some ⟨g', 0, none⟩) (rs.length + 1) cap')) base bR g' cap' (rs ++ [r]) ∧ Mod (fun k => k = bR ∨ k = g) w (w1.setCell ⟨bR, 0, none⟩ (.slice (some ⟨g', 0, none⟩) (rs.length + 1) cap')) := by
  have b1 : ∀ k, k < w.heap.size → k ≠ g → w1.heap[k]? = w.heap[k]? := fun k hk hne => hgrow.block k hk (by simpa using hne)
  have hR1 := (b1 bR h.lt.1 h.neRg).trans h.arena
  have hgR : g' ≠ bR := by
    intro e; subst e
    obtain ⟨cur, hc⟩ := ownsRow_block hown (k := g') rfl
    rw [hc] at hR1; simp at hR1
  have b2 : ∀ k, k ≠ bR → (w1.setCell ⟨bR, 0, none⟩ (.slice (some ⟨g', 0, none⟩) (rs.length + 1) cap')).heap[k]? = w1.heap[k]? := fun k hk => Below.heap_setCell _ _ _ _ hk
  have hsz : w.heap.size ≤ (w1.setCell ⟨bR, 0, none⟩ (.slice (some ⟨g', 0, none⟩) (rs.length + 1) cap')).heap.size := Nat.le_trans hgrow.size (Mod.setCell (F := fun _ => True) w1 ⟨bR, 0, none⟩ _ trivial).size
  have all : ∀ (i : Nat) x, (rs ++ [r])[i]? = some x → Lists (w1.setCell ⟨bR, 0, none⟩ (.slice (some ⟨g', 0, none⟩) (rs.length + 1) cap')) base bR g' x := by
    intro i x hx
    have hL : Lists w base bR g x := by
      by_cases hl : i < rs.length
      · rw [List.getElem?_append_left hl] at hx; exact h.lists hx
      · rw [List.getElem?_append_right (by omega)] at hx
        have := List.mem_of_getElem? hx
        simp at this; subst this; exact hr
    have hL2 := hL.mod (w' := w1.setCell ⟨bR, 0, none⟩ (.slice (some ⟨g', 0, none⟩) (rs.length + 1) cap')) hsz (fun k hk h1 h2 => by rw [b2 k h1, b1 k hk h2])
    refine hL2.other (fun k e => ?_)
    obtain ⟨_, h2, _, h4⟩ := hL.held k e
    rcases hg' with rfl | hg'
    · exact h4
    · omega
  refine ⟨⟨?_, ?_, h.lo, by simp, by simpa using hlen, fun i x hx => (all i x hx).attrs, fun i x hx => (all i x hx).kids, fun i x hx => (all i x hx).held⟩, (Mod.grown hgrow (by simp)).trans (Mod.setCell _ _ _ (.inl rfl))⟩
  · rw [List.length_append]; exact one_setCell hR1
  · rw [List.length_append]
    have : oneRow (rs ++ [r]) = oneRow rs ++ r.cells := by simp [oneRow]
    rw [this]
    exact ownsRow_setCell_other hown (by simp [Value.ownBlock]; exact hgR) _
end

def oneR (k : Int) : OneR := { o := oneM k, av := .slice none 0 0, kv := .slice none 0 0 }
theorem lists_bare (w : World) (base bR g : Nat) (r : OneR) (h1 : r.av = .slice none 0 0) (h2 : r.kv = .slice none 0 0) (h3 : r.o.attrs = []) (h4 : r.o.kids = []) : Lists w base bR g r :=
  ⟨⟨none, 0, by rw [h1, h3]; rfl, ⟨fun i x hi => by rw [h3] at hi; simp at hi⟩, by simp [h3]⟩, ⟨none, 0, by rw [h2, h4]; rfl, ⟨fun i x hi => by rw [h4] at hi; simp at hi⟩, by simp [h4]⟩, fun k e => by rw [h1, h2] at e; simp [blk] at e⟩

theorem rf_new (w : World) (base : Nat) (hbase : base ≤ w.heap.size) :
    Rf ((w.alloc (.cells (oneRow [oneR 0]).toArray 58)).alloc (.cells #[.slice (some ⟨w.heap.size, 0, none⟩) 1 1] 61)) base (w.heap.size + 1) w.heap.size 1 [oneR 0] := by
  have hg : (w.alloc (.cells (oneRow [oneR 0]).toArray 58)).ownsRow base 58 10 (.slice (some ⟨w.heap.size, 0, none⟩) 1 1) 1 (oneRow [oneR 0]) := by
    have := World.ownsRow_lit (base := base) (e := 58) (size := 10) w (oneRow [oneR 0]).toArray 1 hbase (by simp [maxLen]) (by rfl)
    simpa using this
  have L := fun (i : Nat) (r : OneR) (hi : [oneR 0][i]? = some r) => (show Lists ((w.alloc (.cells (oneRow [oneR 0]).toArray 58)).alloc (.cells #[.slice (some ⟨w.heap.size, 0, none⟩) 1 1] 61)) base (w.heap.size + 1) w.heap.size r from by
    have : r = oneR 0 := by have := List.mem_of_getElem? hi; simpa using this
    subst this
    exact lists_bare _ _ _ _ _ rfl rfl rfl rfl)
  refine ⟨?_, hg.alloc _, by omega, by simp, by simp, fun i r hi => (L i r hi).attrs, fun i r hi => (L i r hi).kids, fun i r hi => (L i r hi).held⟩
  have := heap_alloc_new (w.alloc (.cells (oneRow [oneR 0]).toArray 58)) (.cells #[.slice (some ⟨w.heap.size, 0, none⟩) 1 1] 61)
  simpa using this

set_option maxHeartbeats 400000 in
theorem refNew_any (w : World) (base : Nat) (hbase : base ≤ w.heap.size) :
    Calls Tryz.prog 11 #[] w fun e w' => ∃ bR g cap, e = .returned (.pointer (some ⟨bR, 0, none⟩)) ∧ Rf w' base bR g cap [oneR 0] ∧ Below w.heap.size w w' ∧ w.heap.size ≤ bR ∧ w.heap.size ≤ g := by
  go_enter Tryz.func11, Tryz.ntmps11
  go_wp2
  go_ret
  have R := rf_new w base hbase
  refine ⟨_, _, _, rfl, R, ?_, ?_, ?_⟩
  · exact (((Below.refl _ w).alloc (Nat.le_refl _) _).alloc (by simp) _)
  · omega
  · omega

theorem Tryz.info58 : (Tryz.prog.info? 58).map (fun i => (i.zero, i.size, i.bytes)) = some (some (.agg #[.int .i64 0, .int .i64 0, .string ⟨#[]⟩, .slice none 0 0, .string ⟨#[]⟩, .string ⟨#[]⟩, .int .i64 0, .int .i64 0, .int .i64 0, .slice none 0 0]), 10, 136) := by kernel_rfl
end Go.Proofs.YtmnmaenmoaehlaaGreatDoor

namespace Go.Proofs.YtmnmaenmoaehlaaGreatDoor
open Go.RowKit

section
variable {w w' : World} {base bR g cap : Nat} {rs : List OneR}

def OneR.agg (r : OneR) : Value := .agg #[.int .i64 r.o.kind, .int .i64 r.o.space, .string r.o.name, r.av, .string r.o.data, .string r.o.system, .int .i64 r.o.inner, .int .i64 r.o.host, .int .i64 r.o.up, r.kv]
def OneR.free (r : OneR) : OneR := { r with o := { r.o with inner := -1, host := -1, up := -1 } }

theorem Lists.free {r : OneR} (h : Lists w base bR g r) : Lists w base bR g r.free := ⟨h.attrs, h.kids, h.held⟩

set_option maxHeartbeats 400000 in
theorem refAdd_full (h : Rf w base bR g cap rs) (r : OneR) (hav : ∃ a n c, r.av = .slice a n c) (hkv : ∃ a n c, r.kv = .slice a n c) (hf : ¬ rs.length + 1 ≤ 32768) :
    Calls Tryz.prog 38 #[.pointer (some ⟨bR, 0, none⟩), r.agg] w fun e w' => e = .returned (.tuple #[.int .i64 0, .int .i64 9]) ∧ Below w.heap.size w w' := by
  obtain ⟨a1, n1, k1, e1⟩ := hav
  obtain ⟨a2, n2, k2, e2⟩ := hkv
  have hA := h.cR
  have hlR := h.lt.1
  have hn := h.most
  have hz : (32768 : Int) ≤ (rs.length : Int) := by omega
  unfold OneR.agg
  rw [e1, e2]
  clear h e1 e2
  go_enter Tryz.func38, Tryz.ntmps38
  go_wp2
  go_ret2
  exact ⟨rfl, (Below.refl _ _).alloc (Nat.le_refl _) _⟩

set_option maxHeartbeats 2000000 in
theorem refAdd_fits (h : Rf w base bR g cap rs) (r : OneR) (hl : Lists w base bR g r) (hf : rs.length + 1 ≤ 32768) :
    Calls Tryz.prog 38 #[.pointer (some ⟨bR, 0, none⟩), r.agg] w fun e w' => e = .returned (.tuple #[.int .i64 rs.length, .int .i64 0]) ∧
      ∃ g' cap', Rf w' base bR g' cap' (rs ++ [r.free]) ∧ Mod (fun k => k = bR ∨ k = g) w w' ∧ (g' = g ∨ w.heap.size ≤ g') := by
  obtain ⟨o, av, kv⟩ := r
  obtain ⟨a1, k1, e1, _⟩ := hl.attrs
  obtain ⟨a2, k2, e2, _⟩ := hl.kids
  simp only at e1 e2
  subst e1 e2
  have hA := h.cR
  have hlR := h.lt.1
  have hlg := h.lt.2
  have hfR := h.fR
  have neR := h.neRg
  have hn := h.most
  have hz : ¬ (32768 : Int) ≤ (rs.length : Int) := by omega
  obtain ⟨i0, hi0, hz0, hz1, hz2⟩ := info_parts Tryz.info58
  have HL := hide hl
  have HH := hide h
  have HR := hide h.row
  have HB := hide (Nat.le_trans h.base_g (Nat.le_of_lt hlg))
  have hnews : ∀ o1 o2, o2 = Obj.cells (OneR.free ⟨o, .slice a1 o.attrs.length k1, .slice a2 o.kids.length k2⟩).cells.toArray 58 → ∀ j u, (OneR.free ⟨o, .slice a1 o.attrs.length k1, .slice a2 o.kids.length k2⟩).cells[j]? = some u → ((w.alloc o1).alloc o2).drew.cell? ((⟨w.heap.size + 1, 0, none⟩ : Addr).add j) = some u := by
    rintro o1 o2 rfl
    refine World.news_of_block (w := ((w.alloc o1).alloc _).drew) (B := w.heap.size + 1) (t := 58) (fr := (0, 0)) ?_
    have := heap_alloc_new (w.alloc o1) (Obj.cells (OneR.free ⟨o, .slice a1 o.attrs.length k1, .slice a2 o.kids.length k2⟩).cells.toArray 58)
    rw [World.size_alloc] at this
    exact this
  have HNW := hide hnews
  have hbx : ∀ o1 o2, Below w.heap.size w ((w.alloc o1).alloc o2).drew := fun o1 o2 => (((Below.refl _ w).alloc (Nat.le_refl _) o1).alloc (by simp) o2).drew
  have HBX := hide hbx
  unfold OneR.agg
  clear h hl hnews hbx
  go_enter Tryz.func38, Tryz.ntmps38
  set_option maxRecDepth 10000 in
  go_wp2_with fail
  go_region_law ((refine step_append_lies _ (by rfl) _ _ _ (by rfl) base 58 i0 _ 10 136 Tryz.underlying59 hi0 hz0 hz1 hz2 rfl (by omega) (.slice (some ⟨g, 0, none⟩) rs.length cap) rs.length (oneRow rs) (by rfl) (by exact (((unhide HR).alloc _).alloc _).drew) ⟨w.heap.size + 1, 0, none⟩ 1 1 (OneR.free ⟨o, .slice a1 o.attrs.length k1, .slice a2 o.kids.length k2⟩).cells (by rfl) (by rfl) (by exact ((unhide HNW) _ _ rfl)) (by simp [OneR.free, OneR.cells, Value.oneCell']) (by omega) (by unfold maxLen; omega) (by omega) (by have := unhide HB; simp; omega) (w.heap.size + 2) (by simp) ?_; intro g' cp' w4 hown4 hgrow hat hlt4; have hR4 : w4.cell? ⟨bR, 0, none⟩ = some (.slice (some ⟨g, 0, none⟩) rs.length cap) := ((hgrow.cell_far ⟨bR, 0, none⟩ (by simp; omega) (by simp [Value.ownBlock]; omega)).trans (((unhide HBX _ _).cell (p := ⟨bR, 0, none⟩) hlR).trans hA)); have hF4 : w4.frozen? ⟨bR, 0, none⟩ = false := ((hgrow.frozen_far ⟨bR, 0, none⟩ (by simp; omega) (by simp [Value.ownBlock]; omega)).trans (((unhide HBX _ _).frozen (p := ⟨bR, 0, none⟩) hlR).trans hfR))))
  all_goals go_wp2
  all_goals go_ret2
  all_goals
    have R := ((unhide HH).below (unhide HBX _ _)).grow (OneR.free ⟨o, .slice a1 o.attrs.length k1, .slice a2 o.kids.length k2⟩) (((unhide HL).free).mod (unhide HBX _ _).size (fun k hk _ _ => (unhide HBX _ _).block k hk)) hf hown4 hgrow (hat.imp (fun e => (Option.some.inj e).symm) (fun e => by simp; omega))
    exact ⟨rfl, g', cp', R.1, (Mod.of_below (unhide HBX _ _)).trans R.2, hat.imp (fun e => (Option.some.inj e).symm) (fun e => by omega)⟩
end
end Go.Proofs.YtmnmaenmoaehlaaGreatDoor
