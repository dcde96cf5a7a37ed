/-
  How the document's own arena lies in memory: a row of nodes, each with a list of attributes and one of children that nothing writes to again. The document's own arena: what is above what, a child's place, an attribute's place, long texts. The document's own arena: a child's place, an attribute's place, long texts. The document's own arena: an attribute's place, the children told.
-/
import Derived.Test.YtlbkoafeedlfaaaSBaq
import Derived.Deep.LoopGhost
import Derived.Deep.QuietTactic
import Derived.BigQuiet
namespace Go.Proofs.Ytlbkoafeedlfaaa
open Go.RowKit

structure OneR where
  o : OneM
  av : Value
  kv : Value

def OneR.cells (r : OneR) : List Value :=
  [.int .i64 r.o.kind, .int .i64 r.o.space, .string r.o.name, r.av, .string r.o.data, .string r.o.system, .int .i64 r.o.inner, .int .i64 r.o.host, .int .i64 r.o.up, r.kv]
def oneRow (l : List OneR) : List Value := l.flatMap OneR.cells
theorem one_len (r : OneR) : r.cells.length = 10 := rfl

/-- Numbers that lie in a row. -/
structure IntsIn (w : World) (a : Option Addr) (l : List Nat) : Prop where
  cells : ∀ (i : Nat) x, l[i]? = some x → ∃ b off, a = some ⟨b, off, none⟩ ∧ w.cell? ⟨b, off + i, none⟩ = some (.int .i64 ((x : Nat) : Int))

/-- The block that a slice lies in. -/
def blk : Value → Option Nat
  | .slice (some a) _ _ => some a.block
  | _ => none

structure Rf (w : World) (base bR g cap : Nat) (rs : List OneR) : Prop where
  arena : w.heap[bR]? = some (.cells #[.slice (some ⟨g, 0, none⟩) rs.length cap] 79 (0, 0))
  row : w.ownsRow base 76 10 (.slice (some ⟨g, 0, none⟩) rs.length cap) rs.length (oneRow rs)
  lo : base ≤ bR
  pos : 0 < rs.length
  most : rs.length ≤ 32768
  attrs : ∀ (i : Nat) r, rs[i]? = some r → ∃ a cp, r.av = .slice a r.o.attrs.length cp ∧ AttrsIn w a r.o.attrs ∧ r.o.attrs.length ≤ 1024 ∧ r.o.attrs.length ≤ cp
  kids : ∀ (i : Nat) r, rs[i]? = some r → ∃ a cp, r.kv = .slice a r.o.kids.length cp ∧ IntsIn w a r.o.kids ∧ r.o.kids.length ≤ 32768
  held : ∀ (i : Nat) r, rs[i]? = some r → ∀ k, (blk r.av = some k ∨ blk r.kv = some k) → base ≤ k ∧ k < w.heap.size ∧ k ≠ bR ∧ k ≠ g

def osOf (rs : List OneR) : List OneM := rs.map (·.o)
theorem osOf_get {rs : List OneR} {i : Nat} {r : OneR} (h : rs[i]? = some r) : (osOf rs)[i]? = some r.o := by simp [osOf, h]
theorem osOf_len (rs : List OneR) : (osOf rs).length = rs.length := by simp [osOf]

/-- The blocks of such an arena. -/
def footR (bR g : Nat) (rs : List OneR) (k : Nat) : Prop := k = bR ∨ k = g ∨ ∃ r ∈ rs, blk r.av = some k ∨ blk r.kv = some k

theorem IntsIn.mod {w w' : World} {a : Option Addr} {l : List Nat} (h : IntsIn w a l) (hb : ∀ b off, a = some ⟨b, off, none⟩ → w'.heap[b]? = w.heap[b]?) : IntsIn w' a l := ⟨fun i x hi => by
  obtain ⟨b, off, e, hc⟩ := h.cells i x hi
  exact ⟨b, off, e, (World.cell?_of_block (w := w) (hb b off e)).trans hc⟩⟩
theorem AttrsIn.mod {w w' : World} {a : Option Addr} {l : List AttrM} (h : AttrsIn w a l) (hb : ∀ b off, a = some ⟨b, off, none⟩ → w'.heap[b]? = w.heap[b]?) : AttrsIn w' a l := ⟨fun i x hi => by
  obtain ⟨b, off, e, c0, c1, c2, c3⟩ := h.cells i x hi
  have hc := fun (j : Nat) => World.cell?_of_block (w := w) (w' := w') (a := ⟨b, j, none⟩) (hb b off e)
  exact ⟨b, off, e, (hc _).trans c0, (hc _).trans c1, (hc _).trans c2, (hc _).trans c3⟩⟩

section
variable {w w' : World} {base bR g cap : Nat} {rs : List OneR}

theorem Rf.cR (h : Rf w base bR g cap rs) : w.cell? ⟨bR, 0, none⟩ = some (.slice (some ⟨g, 0, none⟩) rs.length cap) := cell_of_one h.arena
theorem Rf.fR (h : Rf w base bR g cap rs) : w.frozen? ⟨bR, 0, none⟩ = false := free_of_one h.arena
theorem Rf.fg (h : Rf w base bR g cap rs) (j : Nat) : w.frozen? ⟨g, j, none⟩ = false := h.row.frozenAt j
theorem Rf.cell (h : Rf w base bR g cap rs) {i : Nat} {r : OneR} (hi : rs[i]? = some r) (j : Nat) (hj : j < 10) : w.cell? ⟨g, i * 10 + j, none⟩ = r.cells[j]? := by
  have hlt : i < rs.length := (List.getElem?_eq_some_iff.1 hi).1
  rw [h.row.cellAt (i * 10 + j) (by omega), oneRow, flat_get OneR.cells 10 one_len rs i j hj, hi]; rfl
theorem Rf.cells10 (h : Rf w base bR g cap rs) {i : Nat} {r : OneR} (hi : rs[i]? = some r) :
    w.cell? ⟨g, i * 10, none⟩ = some (.int .i64 r.o.kind) ∧ w.cell? ⟨g, i * 10 + 1, none⟩ = some (.int .i64 r.o.space) ∧ w.cell? ⟨g, i * 10 + 2, none⟩ = some (.string r.o.name) ∧
    w.cell? ⟨g, i * 10 + 3, none⟩ = some r.av ∧ w.cell? ⟨g, i * 10 + 4, none⟩ = some (.string r.o.data) ∧ w.cell? ⟨g, i * 10 + 5, none⟩ = some (.string r.o.system) ∧
    w.cell? ⟨g, i * 10 + 6, none⟩ = some (.int .i64 r.o.inner) ∧ w.cell? ⟨g, i * 10 + 7, none⟩ = some (.int .i64 r.o.host) ∧ w.cell? ⟨g, i * 10 + 8, none⟩ = some (.int .i64 r.o.up) ∧ w.cell? ⟨g, i * 10 + 9, none⟩ = some r.kv :=
  ⟨h.cell hi 0 (by omega), h.cell hi 1 (by omega), h.cell hi 2 (by omega), h.cell hi 3 (by omega), h.cell hi 4 (by omega), h.cell hi 5 (by omega), h.cell hi 6 (by omega), h.cell hi 7 (by omega), h.cell hi 8 (by omega), h.cell hi 9 (by omega)⟩
theorem Rf.blockg (h : Rf w base bR g cap rs) : ∃ cur, w.heap[g]? = some (.cells cur 76 (0, 0)) := by
  rcases h.row.2 with ⟨h', _⟩ | ⟨g', cap', cur, h', _, hg, _⟩
  · simp at h'
  · simp only [Value.slice.injEq, Option.some.injEq, Addr.mk.injEq, and_true, true_and] at h'
    obtain ⟨rfl, rfl⟩ := h'
    exact ⟨cur, hg⟩
theorem Rf.neRg (h : Rf w base bR g cap rs) : bR ≠ g := by
  obtain ⟨cur, hg⟩ := h.blockg
  intro e; subst e; have := h.arena; rw [hg] at this; simp at this
theorem Rf.lt (h : Rf w base bR g cap rs) : bR < w.heap.size ∧ g < w.heap.size := by
  obtain ⟨cur, hg⟩ := h.blockg
  exact ⟨lt_of_block h.arena, lt_of_block hg⟩
theorem Rf.base_g (h : Rf w base bR g cap rs) : base ≤ g := by
  rcases h.row.2 with ⟨h', _⟩ | ⟨g', cap', cur, h', hb, hg, _⟩
  · simp at h'
  · simp only [Value.slice.injEq, Option.some.injEq, Addr.mk.injEq, and_true, true_and] at h'
    obtain ⟨rfl, rfl⟩ := h'
    first | exact hb | exact hb.1 | omega
theorem Rf.foot_lt (h : Rf w base bR g cap rs) {k : Nat} (hk : footR bR g rs k) : base ≤ k ∧ k < w.heap.size := by
  rcases hk with rfl | rfl | ⟨r, hr, hk⟩
  · exact ⟨h.lo, h.lt.1⟩
  · exact ⟨h.base_g, h.lt.2⟩
  · obtain ⟨i, hi⟩ := List.mem_iff_getElem?.1 hr
    have := h.held i r hi k hk
    exact ⟨this.1, this.2.1⟩
theorem Rf.same (h : Rf w base bR g cap rs) (hk : ∀ k, footR bR g rs k → w'.heap[k]? = w.heap[k]?) (hsz : w.heap.size ≤ w'.heap.size) : Rf w' base bR g cap rs := by
  refine ⟨(hk bR (.inl rfl)).trans h.arena, ownsRow_kept h.row (fun k e => ?_), h.lo, h.pos, h.most, fun i r hi => ?_, fun i r hi => ?_, fun i r hi k e => ?_⟩
  · simp [Value.ownBlock] at e; subst e; exact hk _ (.inr (.inl rfl))
  · obtain ⟨a, cp, e, ha, hl⟩ := h.attrs i r hi
    exact ⟨a, cp, e, ha.mod (fun b off eb => hk b (.inr (.inr ⟨r, List.mem_of_getElem? hi, .inl (by rw [e, eb]; rfl)⟩))), hl⟩
  · obtain ⟨a, cp, e, ha, hl⟩ := h.kids i r hi
    exact ⟨a, cp, e, ha.mod (fun b off eb => hk b (.inr (.inr ⟨r, List.mem_of_getElem? hi, .inr (by rw [e, eb]; rfl)⟩))), hl⟩
  · obtain ⟨h1, h2, h3⟩ := h.held i r hi k e
    exact ⟨h1, by omega, h3⟩
theorem Rf.below (h : Rf w base bR g cap rs) (hb : Below w.heap.size w w') : Rf w' base bR g cap rs :=
  h.same (fun k hk => hb.block k (h.foot_lt hk).2) hb.size
theorem Rf.mod (h : Rf w base bR g cap rs) {F : Nat → Prop} (hm : Mod F w w') (hF : ∀ k, footR bR g rs k → ¬ F k) : Rf w' base bR g cap rs :=
  h.same (fun k hk => hm.block k (h.foot_lt hk).2 (hF k hk)) hm.size
theorem Rf.alloc (h : Rf w base bR g cap rs) (o : Obj) : Rf (w.alloc o) base bR g cap rs := h.below ((Below.refl _ w).alloc (Nat.le_refl _) o)

theorem refIs_any (h : Rf w base bR g cap rs) (k : Int) : Calls Try.prog 79 #[.pointer (some ⟨bR, 0, none⟩), .int .i64 k] w fun e w' => e = .returned (.bool (hasO (osOf rs) k)) ∧ w = w' := by
  have hA := h.cR
  have hn := h.most
  have hl := osOf_len rs
  unfold hasO
  rw [hl]
  clear h hl
  go_enter Try.func79, Try.ntmps79
  go_wp2
  all_goals go_ret
  · refine ⟨?_, rfl⟩
    have h0 : 0 ≤ k := by assumption
    simp [h0]
  · refine ⟨?_, rfl⟩
    have h0 : k < 0 := by assumption
    simp; omega

theorem refParent_any (h : Rf w base bR g cap rs) (i : Nat) (r : OneR) (hi : rs[i]? = some r) : Calls Try.prog 93 #[.pointer (some ⟨bR, 0, none⟩), .int .i64 i] w fun e w' => e = .returned (.bool (parentM r.o.kind)) ∧ w = w' := by
  have hlt : i < rs.length := (List.getElem?_eq_some_iff.1 hi).1
  have hA := h.cR
  have hn := h.most
  have c0 := (h.cells10 hi).1
  clear h hi
  go_enter Try.func93, Try.ntmps93
  go_wp2
  all_goals go_ret
  all_goals refine ⟨?_, rfl⟩
  all_goals simp [parentM, *]

theorem refHost_any (h : Rf w base bR g cap rs) (k : Int) : Calls Try.prog 52 #[.pointer (some ⟨bR, 0, none⟩), .int .i64 k] w fun e w' => e = .returned (.int .i64 (if hasO (osOf rs) k then (((osOf rs)[k.toNat]?).map (·.host)).getD (-1) else -1)) ∧ w = w' := by
  have HI := hide (refIs_any h k)
  have hA := h.cR
  have hn := h.most
  cases hh : hasO (osOf rs) k with
  | false =>
    rw [hh] at HI
    clear h
    go_enter Try.func52, Try.ntmps52
    go_wp2_with (go_at_call 79; refine (unhide HI).mono ?_; rintro e w' ⟨rfl, rfl⟩)
    go_ret
    exact ⟨rfl, rfl⟩
  | true =>
    rw [hh] at HI
    obtain ⟨i, o, rfl, ho⟩ := hasO_yes hh
    have hlt : i < rs.length := by rw [← osOf_len]; exact (List.getElem?_eq_some_iff.1 ho).1
    obtain ⟨r, hi⟩ : ∃ r, rs[i]? = some r := ⟨_, List.getElem?_eq_getElem hlt⟩
    have hro := osOf_get hi
    have c7 := (h.cells10 hi).2.2.2.2.2.2.2.1
    have e1 : (((osOf rs)[((i : Int)).toNat]?).map (·.host)).getD (-1) = r.o.host := by simp [hro]
    rw [e1]
    clear h ho hro e1 hi hh
    go_enter Try.func52, Try.ntmps52
    go_wp2_with (go_at_call 79; refine (unhide HI).mono ?_; rintro e w' ⟨rfl, rfl⟩)
    go_ret
    exact ⟨rfl, rfl⟩
end
end Go.Proofs.Ytlbkoafeedlfaaa

namespace Go.Proofs.Ytlbkoafeedlfaaa
open Go.RowKit

section
variable {w : World} {base bR g cap : Nat} {rs : List OneR}

theorem upO_of {os : List OneM} {i : Nat} {o : OneM} (h : os[i]? = some o) : upO os i = some (if o.up = -1 then o.host else o.up) := by simp [upO, h]

set_option maxHeartbeats 2000000 in
theorem refAbove_path (h : Rf w base bR g cap rs) (i : Nat) (other : Int) (ho : hasO (osOf rs) other = true) (hi0 : hasO (osOf rs) i = true) (path : List Nat) (hpath : PathOf (upO (osOf rs)) i path) :
    Calls Try.prog 94 #[.pointer (some ⟨bR, 0, none⟩), .int .i64 i, .int .i64 other] w fun e w' => e = .returned (.bool (inPath path other)) ∧ w = w' := by
  have HI := hide (fun k => refIs_any h k)
  have hA := h.cR
  have hn := h.most
  have hcell := fun (x : Nat) r hx => h.cells10 (i := x) (r := r) hx
  have HC := hide hcell
  have HP := hide hpath
  clear h hcell hpath
  go_enter Try.func94, Try.ntmps94
  go_wp2_with (go_at_call 79; refine ((unhide HI) _).mono ?_; rintro e w' ⟨rfl, rfl⟩)
  go_loopg [1] path.length (fun k s1 wx => ∃ (q : Int) (pre rest : List Nat), s1 = .int .i64 q ∧ path = pre ++ rest ∧ k = rest.length ∧ PathOf (upO (osOf rs)) q rest ∧ inPath pre other = false ∧ wx = w)
  case atStart => exact ⟨i, [], path, rfl, rfl, rfl, unhide HP, rfl, rfl⟩
  case round =>
    obtain ⟨q, pre, rest, rfl, rfl, rfl, hq, hpre, rfl⟩ := hrel
    have HPre := hide hpre
    clear hpre
    cases rest with
    | nil =>
      obtain rfl : q = -1 := hq
      go_wp2
      go_ret
      exact ⟨by rw [List.append_nil, unhide HPre]; rfl, rfl⟩
    | cons j r =>
      obtain ⟨rfl, m, hm, hr⟩ := hq
      have HR := hide hr
      have hq1 : ((j : Int) != -1) = true := by rw [bne_iff_ne]; omega
      by_cases hj : (j : Int) = other
      · have hj1 : ((j : Int) == other) = true := by simp [hj]
        go_wp2
        go_ret
        refine ⟨?_, rfl⟩
        have : inPath (pre ++ j :: r) other = true := by simp [inPath, hj]
        rw [this]; rfl
      · have hj1 : ((j : Int) == other) = false := beq_eq_false_iff_ne.2 hj
        obtain ⟨o, hoj⟩ : ∃ o, (osOf rs)[j]? = some o := by
          cases e : (osOf rs)[j]? with
          | none => simp [upO, e] at hm
          | some o => exact ⟨o, rfl⟩
        have hlt : j < rs.length := by rw [← osOf_len]; exact (List.getElem?_eq_some_iff.1 hoj).1
        obtain ⟨rj, hrj⟩ : ∃ r, rs[j]? = some r := ⟨_, List.getElem?_eq_getElem hlt⟩
        have := osOf_get hrj
        rw [hoj] at this
        cases this
        rw [upO_of hoj] at hm
        have c7 := ((unhide HC) j rj hrj).2.2.2.2.2.2.2.1
        have c8 := ((unhide HC) j rj hrj).2.2.2.2.2.2.2.2.1
        have HPre2 := hide (show inPath (pre ++ [j]) other = false by
          have := unhide HPre
          unfold inPath at this ⊢
          rw [List.any_append, this]; simp [hj])
        clear hoj hrj hr
        by_cases hu : rj.o.up = -1
        · rw [if_pos hu] at hm
          simp only [Option.some.injEq] at hm
          rw [hu] at c8
          subst hm
          clear hu
          go_wp2
          go_roundg r.length
          case measure => simp
          case rel => exact ⟨_, pre ++ [j], r, rfl, by simp, rfl, unhide HR, unhide HPre2, rfl⟩
        · rw [if_neg hu] at hm
          simp only [Option.some.injEq] at hm
          have hu1 : (rj.o.up == -1) = false := beq_eq_false_iff_ne.2 hu
          subst hm
          go_wp2
          go_roundg r.length
          case measure => simp
          case rel => exact ⟨_, pre ++ [j], r, rfl, by simp, rfl, unhide HR, unhide HPre2, rfl⟩
end
end Go.Proofs.Ytlbkoafeedlfaaa

namespace Go.Proofs.Ytlbkoafeedlfaaa
open Go.RowKit

section
variable {w : World} {base bR g cap : Nat} {rs : List OneR}

theorem refAbove_any (h : Rf w base bR g cap rs) (hends : ∀ i, i < (osOf rs).length → ∃ path, PathOf (upO (osOf rs)) i path) (i other : Int) :
    Calls Try.prog 94 #[.pointer (some ⟨bR, 0, none⟩), .int .i64 i, .int .i64 other] w fun e w' => e = .returned (.bool (aboveO (osOf rs) i other)) ∧ w = w' := by
  cases hh : (hasO (osOf rs) i && hasO (osOf rs) other) with
  | true =>
    rw [Bool.and_eq_true] at hh
    obtain ⟨ii, oi, rfl, hoi⟩ := hasO_yes hh.1
    obtain ⟨path, hpath⟩ := hends ii (List.getElem?_eq_some_iff.1 hoi).1
    rw [aboveO_of hoi hh.2 hpath]
    exact refAbove_path h ii other hh.2 hh.1 path hpath
  | false =>
    have e : aboveO (osOf rs) i other = false := by rw [aboveO_eq]; rw [hh]; rfl
    rw [e]
    have HI := hide (fun k => refIs_any h k)
    clear h hends e
    cases h1 : hasO (osOf rs) i with
    | false =>
      go_enter Try.func94, Try.ntmps94
      go_wp2_with (go_at_call 79; refine ((unhide HI) _).mono ?_; rintro e w' ⟨rfl, rfl⟩)
      go_ret
      exact ⟨rfl, rfl⟩
    | true =>
      have h2 : hasO (osOf rs) other = false := by rw [h1] at hh; simpa using hh
      clear hh
      go_enter Try.func94, Try.ntmps94
      go_wp2_with (go_at_call 79; refine ((unhide HI) _).mono ?_; rintro e w' ⟨rfl, rfl⟩)
      go_ret
      exact ⟨rfl, rfl⟩

theorem refLong_any (w : World) (b cp : Nat) (ss : List ByteArray) (hc : ∀ j s, ss[j]? = some s → w.cell? ⟨b, j, none⟩ = some (.string s)) (hl : ss.length ≤ 1000) :
    Calls Try.prog 95 #[.slice (some ⟨b, 0, none⟩) ss.length cp] w fun e w' => e = .returned (.bool (ss.any longS)) ∧ w = w' := by
  have HC := hide hc
  clear hc
  go_enter Try.func95, Try.ntmps95
  go_wp2
  go_loopg [3] ss.length (fun k s2 wx => ∃ i : Nat, s2 = .int .i64 i ∧ i + k = ss.length ∧ (∀ j s, j < i → ss[j]? = some s → longS s = false) ∧ wx = w)
  case atStart => exact ⟨0, rfl, by omega, fun j s hj => by omega, rfl⟩
  case round =>
    obtain ⟨i, rfl, hik, hall, rfl⟩ := hrel
    have HA := hide hall
    clear hall
    by_cases hi : i < ss.length
    · have hs : ss[i]? = some ss[i] := List.getElem?_eq_getElem hi
      generalize ss[i] = s at hs
      have hcs := (unhide HC) i s hs
      have hiz : (i : Int) < (ss.length : Int) := by omega
      by_cases hlong : 1048576 < s.size
      · have hlz : (1048576 : Int) < (s.size : Int) := by omega
        go_wp2
        go_ret
        refine ⟨?_, rfl⟩
        have : ss.any longS = true := List.any_eq_true.2 ⟨s, List.mem_of_getElem? hs, by simp [longS, hlong]⟩
        rw [this]; rfl
      · have hlz : ¬ (1048576 : Int) < (s.size : Int) := by omega
        go_wp2
        go_roundg (gk - 1)
        case measure => omega
        case rel => exact ⟨i + 1, by go_num, by omega, none_long ss i s hs (unhide HA) (by simp [longS]; omega), rfl⟩
    · have hiz : ¬ (i : Int) < (ss.length : Int) := by omega
      go_wp2
      go_ret
      refine ⟨?_, rfl⟩
      have : ss.any longS = false := any_long_no (fun j s hj hs => (unhide HA) j s (by omega) hs)
      rw [this]; rfl

/-- Where a child stands. -/
theorem refPlace_any (h : Rf w base bR g cap rs) (i p : Nat) (r rp : OneR) (hi : rs[i]? = some r) (hu : r.o.up = (p : Int)) (hp : rs[p]? = some rp) (A B : List Nat) (hk : rp.o.kids = A ++ i :: B) (hA : i ∉ A) :
    Calls Try.prog 101 #[.pointer (some ⟨bR, 0, none⟩), .int .i64 i] w fun e w' => e = .returned (.int .i64 A.length) ∧ Below w.heap.size w w' := by
  have hlt : i < rs.length := (List.getElem?_eq_some_iff.1 hi).1
  have hpl : p < rs.length := (List.getElem?_eq_some_iff.1 hp).1
  have hAr := h.cR
  have hn := h.most
  have c8 := (h.cells10 hi).2.2.2.2.2.2.2.2.1
  rw [hu] at c8
  have c9 := (h.cells10 hp).2.2.2.2.2.2.2.2.2
  obtain ⟨a, cp, hkv, hin, hkl⟩ := h.kids p rp hp
  rw [hkv] at c9
  have hAl : A.length < rp.o.kids.length := by rw [hk]; simp
  have hget : ∀ j, j < A.length → ∃ x : Nat, rp.o.kids[j]? = some x ∧ x ≠ i := by
    intro j hj
    refine ⟨A[j], by rw [hk, List.getElem?_append_left hj, List.getElem?_eq_getElem hj], fun e => hA (e ▸ List.getElem_mem hj)⟩
  have hat : rp.o.kids[A.length]? = some i := by rw [hk]; simp
  have HIN := hide hin
  have HG := hide hget
  have HAT := hide hat
  generalize rp.o.kids = ks at *
  clear h hi hp hu hkv hk hA hin hget hat
  go_enter Try.func101, Try.ntmps101
  go_wp2
  go_region
  go_wp2
  go_loopg [6] A.length (fun k s5 wx => ∃ j : Nat, s5 = .int .i64 j ∧ j + k = A.length ∧ wx = w.drew)
  case atStart => exact ⟨0, rfl, by omega, rfl⟩
  case round =>
    obtain ⟨j, rfl, hjk, rfl⟩ := hrel
    have hjl : (j : Int) < (ks.length : Int) := by omega
    cases gk with
    | zero =>
      obtain rfl : j = A.length := by omega
      obtain ⟨b, off, rfl, hc⟩ := (unhide HIN).cells A.length i (unhide HAT)
      have he : ((i : Int) == (i : Int)) = true := by simp
      go_wp2
      go_ret
      exact ⟨rfl, (Below.refl _ _).drew⟩
    | succ gk =>
      obtain ⟨x, hx, hne⟩ := (unhide HG) j (by omega)
      obtain ⟨b, off, rfl, hc⟩ := (unhide HIN).cells j x hx
      have he : ((x : Int) == (i : Int)) = false := beq_eq_false_iff_ne.2 (by omega)
      go_wp2
      go_roundg gk
      case measure => omega
      case rel => exact ⟨j + 1, by go_num, by omega, rfl⟩
end
end Go.Proofs.Ytlbkoafeedlfaaa

namespace Go.Proofs.Ytlbkoafeedlfaaa
open Go.RowKit

section
variable {w : World} {base bR g cap : Nat} {rs : List OneR}

theorem refFind_any (h : Rf w base bR g cap rs) (i : Nat) (r : OneR) (hi : rs[i]? = some r) (space : Int) (name : ByteArray) :
    Calls Try.prog 99 #[.pointer (some ⟨bR, 0, none⟩), .int .i64 i, .int .i64 space, .string name] w fun e w' => e = .returned (.int .i64 (idxM (sameKey space name) r.o.attrs)) ∧ Below w.heap.size w w' := by
  have hlt : i < rs.length := (List.getElem?_eq_some_iff.1 hi).1
  have hAr := h.cR
  have hn := h.most
  have c3 := (h.cells10 hi).2.2.2.1
  obtain ⟨a, cp, hav, hin, hkl⟩ := h.attrs i r hi
  rw [hav] at c3
  have HIN := hide hin
  generalize r.o.attrs = l at *
  clear h hi hav hin
  go_enter Try.func99, Try.ntmps99
  go_wp2
  go_loopg [10] l.length (fun k s wx => ∃ j : Nat, s = .int .i64 j ∧ j + k = l.length ∧ (∀ q x, q < j → l[q]? = some x → sameKey space name x = false) ∧ wx = w)
  case atStart => exact ⟨0, rfl, by omega, fun q x hq => by omega, rfl⟩
  case round =>
    obtain ⟨j, rfl, hjk, hall, rfl⟩ := hrel
    have HA := hide hall
    clear hall
    by_cases hj : j < l.length
    · have hx : l[j]? = some l[j] := List.getElem?_eq_getElem hj
      generalize l[j] = x at hx
      obtain ⟨b, off, rfl, d0, d1, d2, d3⟩ := (unhide HIN).cells j x hx
      have hjz : (j : Int) < (l.length : Int) := by omega
      have HX := hide hx
      clear hx
      have next : sameKey space name x = false → ∀ q y, q < j + 1 → l[q]? = some y → sameKey space name y = false := by
        intro he q y hq hy
        by_cases e : q = j
        · subst e; rw [unhide HX] at hy; cases hy; exact he
        · exact (unhide HA) q y (by omega) hy
      have HN := hide next
      clear next
      by_cases e1 : x.space = space
      · have f1 : (x.space == space) = true := by simp [e1]
        cases e2 : (x.name.toList == name.toList) with
        | true =>
          go_wp2
          go_ret
          refine ⟨?_, Below.refl _ _⟩
          rw [idxM_hit (unhide HX) (by simp [sameKey, f1, e2]) (unhide HA)]; rfl
        | false =>
          go_wp2
          go_roundg (gk - 1)
          case measure => omega
          case rel => exact ⟨j + 1, by go_num, by omega, (unhide HN) (by simp [sameKey, e2]), rfl⟩
      · have f1 : (x.space == space) = false := beq_eq_false_iff_ne.2 e1
        go_wp2
        go_roundg (gk - 1)
        case measure => omega
        case rel => exact ⟨j + 1, by go_num, by omega, (unhide HN) (by simp [sameKey, f1]), rfl⟩
    · have hjz : ¬ (j : Int) < (l.length : Int) := by omega
      go_wp2
      go_ret
      refine ⟨?_, Below.refl _ _⟩
      rw [idxM_miss (fun q x hq hx => (unhide HA) q x (by omega) hx)]; rfl

theorem ints_oneCell (l : List Nat) : ∀ u ∈ intsV l, u.oneCell' = true := by
  intro u hu
  obtain ⟨x, _, rfl⟩ := List.mem_map.1 hu
  rfl

theorem IntsIn.row {w : World} {b off : Nat} {l : List Nat} (h : IntsIn w (some ⟨b, off, none⟩) l) : ∀ j v, (intsV l)[j]? = some v → w.cell? ((⟨b, off, none⟩ : Addr).add j) = some v := by
  intro j v hv
  have hadd : (⟨b, off, none⟩ : Addr).add j = ⟨b, off + j, none⟩ := by unfold Addr.add; split <;> simp_all
  rw [hadd]
  simp only [intsV, List.getElem?_map, Option.map_eq_some_iff] at hv
  obtain ⟨x, hx, rfl⟩ := hv
  obtain ⟨b', off', e, hc⟩ := h.cells j x hx
  simp only [Option.some.injEq, Addr.mk.injEq, and_true] at e
  obtain ⟨rfl, rfl⟩ := e
  exact hc
theorem IntsIn.at {w : World} {a : Option Addr} {l : List Nat} (h : IntsIn w a l) (hl : 0 < l.length) : ∃ b off, a = some ⟨b, off, none⟩ := by
  obtain ⟨b, off, e, _⟩ := h.cells 0 l[0] (List.getElem?_eq_getElem hl)
  exact ⟨b, off, e⟩

theorem IntsIn.below {w w' : World} {a : Option Addr} {l : List Nat} (h : IntsIn w a l) (hb : Below w.heap.size w w') : IntsIn w' a l := ⟨fun i x hi => by
  obtain ⟨b, off, e, hc⟩ := h.cells i x hi
  exact ⟨b, off, e, (hb.cell (p := ⟨b, off + i, none⟩) (World.block_lt_of_cell? w _ hc)).trans hc⟩⟩
theorem empty_row (w : World) (e size base : Nat) (hb : base ≤ w.heap.size) : (w.alloc (.cells #[] e)).ownsRow base e size (.slice (some ⟨w.heap.size, 0, none⟩) 0 0) 0 [] := by
  have := World.ownsRow_lit (base := base) (e := e) (size := size) w #[] 0 hb (by simp [maxLen]) (by simp)
  simpa using this

set_option maxHeartbeats 2000000 in
theorem refKids_in (h : Rf w base bR g cap rs) (i : Nat) (r : OneR) (hi : rs[i]? = some r) :
    Calls Try.prog 50 #[.pointer (some ⟨bR, 0, none⟩), .int .i64 i] w fun e w' => ∃ v, e = .returned v ∧ w'.ownsRow w.heap.size 3 1 v r.o.kids.length (intsV r.o.kids) ∧ Below w.heap.size w w' := by
  have hlt : i < rs.length := (List.getElem?_eq_some_iff.1 hi).1
  have HI := hide (refIs_any h i)
  have q1 : hasO (osOf rs) i = true := hasO_of (osOf_get hi)
  rw [q1] at HI
  have hA := h.cR
  have hn := h.most
  have c9 := (h.cells10 hi).2.2.2.2.2.2.2.2.2
  obtain ⟨a, cp, hkv, hin, hkl⟩ := h.kids i r hi
  rw [hkv] at c9
  have lt := h.lt
  generalize r.o.kids = ks at *
  clear h hi hkv q1
  by_cases h0 : 0 < ks.length
  · obtain ⟨b, off, rfl⟩ := hin.at h0
    have HNW := hide ((hin.below ((Below.refl _ w).alloc (Nat.le_refl _) (.cells #[] 3))).row)
    have HE := hide (empty_row w 3 1 w.heap.size (Nat.le_refl _))
    obtain ⟨i0, hi0, hz0, hz1, hz2⟩ := info_parts Try.info3
    clear hin
    go_enter Try.func50, Try.ntmps50
    go_wp2_with (first
      | (go_at_call 79; refine (unhide HI).mono ?_; rintro e w' ⟨rfl, rfl⟩)
      | (at_builtin; go_must (refine wpList_append_lies _ (by rfl) _ _ 41 (by rfl) w.heap.size 3 i0 _ 1 8 Try.underlying41 hi0 hz0 hz1 hz2 rfl (by omega) (.slice (some ⟨w.heap.size, 0, none⟩) 0 0) 0 [] (by rfl) (unhide HE) ⟨b, off, none⟩ ks.length cp (intsV ks) (by rfl) (by simp [intsV]) (unhide HNW) (ints_oneCell ks) h0 (by unfold maxLen; omega) (by omega) (by simp) _ rfl ?_); intro g' cap' w1 hown1 hgrow hat hltg))
    go_ret
    refine ⟨_, rfl, by simpa using hown1, ?_⟩
    exact ((Below.refl _ w).alloc (Nat.le_refl _) _).grown hgrow (by simp) (fun k hk => by simp [Value.ownBlock] at hk; omega)
  · obtain rfl : ks = [] := List.eq_nil_of_length_eq_zero (by omega)
    simp only [List.length_nil] at c9 hkl
    have HE := hide (empty_row w 3 1 w.heap.size (Nat.le_refl _))
    clear h0 hin
    cases a with
    | none =>
      go_enter Try.func50, Try.ntmps50
      go_wp2_with (go_at_call 79; refine (unhide HI).mono ?_; rintro e w' ⟨rfl, rfl⟩)
      go_ret
      exact ⟨_, rfl, unhide HE, (Below.refl _ w).alloc (Nat.le_refl _) _⟩
    | some a =>
      go_enter Try.func50, Try.ntmps50
      go_wp2_with (go_at_call 79; refine (unhide HI).mono ?_; rintro e w' ⟨rfl, rfl⟩)
      go_ret
      exact ⟨_, rfl, unhide HE, (Below.refl _ w).alloc (Nat.le_refl _) _⟩
end
end Go.Proofs.Ytlbkoafeedlfaaa
