/-
  
-/
import Derived.Test.YtmnmaenmoaehlaaGreatDoorSZae
import Derived.Test.YtmnmaenmoaehlaaGreatDoorSZao
import Derived.Deep.LoopGhost
import Derived.Test.YtmnmaenmoaehlaaGreatDoorSZaf
namespace Go.Proofs.YtmnmaenmoaehlaaGreatDoor
open Go.RowKit

section
variable {w : World} {base bR g cap : Nat} {rs : List OneR}
theorem refParent_any (h : Rf w base bR g cap rs) (i : Nat) (r : OneR) (hi : rs[i]? = some r) : Calls Tryz.prog 43 #[.pointer (some ⟨bR, 0, none⟩), .int .i64 i] w fun e w' => e = .returned (.bool (parentM r.o.kind)) ∧ w = w' := by
  have hlt : i < rs.length := (List.getElem?_eq_some_iff.1 hi).1
  have hA := h.cR
  have hn := h.most
  have c0 := (h.cells10 hi).1
  clear h hi
  go_enter Tryz.func43, Tryz.ntmps43
  go_wp2
  all_goals go_ret
  all_goals refine ⟨?_, rfl⟩
  all_goals simp [parentM, *]

end
end Go.Proofs.YtmnmaenmoaehlaaGreatDoor
/-
  The document's own arena: what is above what, a child's place, an attribute's place, long texts.
-/
namespace Go.Proofs.YtmnmaenmoaehlaaGreatDoor
open Go.RowKit

section
variable {w : World} {base bR g cap : Nat} {rs : List OneR}

theorem upO_of {os : List OneM} {i : Nat} {o : OneM} (h : os[i]? = some o) : upO os i = some (if o.up = -1 then o.host else o.up) := by simp [upO, h]

set_option maxHeartbeats 2000000 in
theorem refAbove_path (h : Rf w base bR g cap rs) (i : Nat) (other : Int) (ho : hasO (osOf rs) other = true) (hi0 : hasO (osOf rs) i = true) (path : List Nat) (hpath : PathOf (upO (osOf rs)) i path) :
    Calls Tryz.prog 44 #[.pointer (some ⟨bR, 0, none⟩), .int .i64 i, .int .i64 other] w fun e w' => e = .returned (.bool (inPath path other)) ∧ w = w' := by
  have HI := hide (fun k => refIs_any h k)
  have hA := h.cR
  have hn := h.most
  have hcell := fun (x : Nat) r hx => h.cells10 (i := x) (r := r) hx
  have HC := hide hcell
  have HP := hide hpath
  clear h hcell hpath
  go_enter Tryz.func44, Tryz.ntmps44
  go_wp2_with (go_at_call 42; refine ((unhide HI) _).mono ?_; rintro e w' ⟨rfl, rfl⟩)
  go_loopg [1] path.length (fun k s1 wx => ∃ (q : Int) (pre rest : List Nat), s1 = .int .i64 q ∧ path = pre ++ rest ∧ k = rest.length ∧ PathOf (upO (osOf rs)) q rest ∧ inPath pre other = false ∧ wx = w)
  case atStart => exact ⟨i, [], path, rfl, rfl, rfl, unhide HP, rfl, rfl⟩
  case round =>
    obtain ⟨q, pre, rest, rfl, rfl, rfl, hq, hpre, rfl⟩ := hrel
    have HPre := hide hpre
    clear hpre
    cases rest with
    | nil =>
      obtain rfl : q = -1 := hq
      go_wp2
      go_ret
      exact ⟨by rw [List.append_nil, unhide HPre]; rfl, rfl⟩
    | cons j r =>
      obtain ⟨rfl, m, hm, hr⟩ := hq
      have HR := hide hr
      have hq1 : ((j : Int) != -1) = true := by rw [bne_iff_ne]; omega
      by_cases hj : (j : Int) = other
      · have hj1 : ((j : Int) == other) = true := by simp [hj]
        go_wp2
        go_ret
        refine ⟨?_, rfl⟩
        have : inPath (pre ++ j :: r) other = true := by simp [inPath, hj]
        rw [this]; rfl
      · have hj1 : ((j : Int) == other) = false := beq_eq_false_iff_ne.2 hj
        obtain ⟨o, hoj⟩ : ∃ o, (osOf rs)[j]? = some o := by
          cases e : (osOf rs)[j]? with
          | none => simp [upO, e] at hm
          | some o => exact ⟨o, rfl⟩
        have hlt : j < rs.length := by rw [← osOf_len]; exact (List.getElem?_eq_some_iff.1 hoj).1
        obtain ⟨rj, hrj⟩ : ∃ r, rs[j]? = some r := ⟨_, List.getElem?_eq_getElem hlt⟩
        have := osOf_get hrj
        rw [hoj] at this
        cases this
        rw [upO_of hoj] at hm
        have c7 := ((unhide HC) j rj hrj).2.2.2.2.2.2.2.1
        have c8 := ((unhide HC) j rj hrj).2.2.2.2.2.2.2.2.1
        have HPre2 := hide (show inPath (pre ++ [j]) other = false by
          have := unhide HPre
          unfold inPath at this ⊢
          rw [List.any_append, this]; simp [hj])
        clear hoj hrj hr
        by_cases hu : rj.o.up = -1
        · rw [if_pos hu] at hm
          simp only [Option.some.injEq] at hm
          rw [hu] at c8
          subst hm
          clear hu
          go_wp2
          go_roundg r.length
          case measure => simp
          case rel => exact ⟨_, pre ++ [j], r, rfl, by simp, rfl, unhide HR, unhide HPre2, rfl⟩
        · rw [if_neg hu] at hm
          simp only [Option.some.injEq] at hm
          have hu1 : (rj.o.up == -1) = false := beq_eq_false_iff_ne.2 hu
          subst hm
          go_wp2
          go_roundg r.length
          case measure => simp
          case rel => exact ⟨_, pre ++ [j], r, rfl, by simp, rfl, unhide HR, unhide HPre2, rfl⟩
end
section
variable {w : World} {base bR g cap : Nat} {rs : List OneR}
theorem refAbove_any (h : Rf w base bR g cap rs) (hends : ∀ i, i < (osOf rs).length → ∃ path, PathOf (upO (osOf rs)) i path) (i other : Int) :
    Calls Tryz.prog 44 #[.pointer (some ⟨bR, 0, none⟩), .int .i64 i, .int .i64 other] w fun e w' => e = .returned (.bool (aboveO (osOf rs) i other)) ∧ w = w' := by
  cases hh : (hasO (osOf rs) i && hasO (osOf rs) other) with
  | true =>
    rw [Bool.and_eq_true] at hh
    obtain ⟨ii, oi, rfl, hoi⟩ := hasO_yes hh.1
    obtain ⟨path, hpath⟩ := hends ii (List.getElem?_eq_some_iff.1 hoi).1
    rw [aboveO_of hoi hh.2 hpath]
    exact refAbove_path h ii other hh.2 hh.1 path hpath
  | false =>
    have e : aboveO (osOf rs) i other = false := by rw [aboveO_eq]; rw [hh]; rfl
    rw [e]
    have HI := hide (fun k => refIs_any h k)
    clear h hends e
    cases h1 : hasO (osOf rs) i with
    | false =>
      go_enter Tryz.func44, Tryz.ntmps44
      go_wp2_with (go_at_call 42; refine ((unhide HI) _).mono ?_; rintro e w' ⟨rfl, rfl⟩)
      go_ret
      exact ⟨rfl, rfl⟩
    | true =>
      have h2 : hasO (osOf rs) other = false := by rw [h1] at hh; simpa using hh
      clear hh
      go_enter Tryz.func44, Tryz.ntmps44
      go_wp2_with (go_at_call 42; refine ((unhide HI) _).mono ?_; rintro e w' ⟨rfl, rfl⟩)
      go_ret
      exact ⟨rfl, rfl⟩

end

end Go.Proofs.YtmnmaenmoaehlaaGreatDoor
/-
  The document's own arena: a child is put in, a child is taken out.
-/
namespace Go.Proofs.YtmnmaenmoaehlaaGreatDoor
open Go.RowKit

section
variable {w w' : World} {base bR g cap : Nat} {rs : List OneR}

/-- One node told anew: what becomes of the blocks. -/
theorem urf_set {w0 : World} {G : Nat → Prop} {i : Nat} {r r' : OneR} (hG : ∀ k, G k ↔ footR bR g rs k) (hi : rs[i]? = some r) (h : Rf w' base bR g cap (rs.set i r')) (hm : Mod (fun k => k = g) w0 w')
    (hr : ∀ k, (blk r'.av = some k ∨ blk r'.kv = some k) → (blk r.av = some k ∨ blk r.kv = some k) ∨ w0.heap.size ≤ k) : URf G w0 w' base bR (osOf (rs.set i r')) := by
  refine ⟨_, ⟨g, cap, _, h, rfl, fun k => Iff.rfl⟩, hm.mono (fun k _ hk => (hG k).2 (.inr (.inl hk))), fun k hk => ?_⟩
  rcases hk with hk | hk | ⟨x, hx, hk⟩
  · exact .inl ((hG k).2 (.inl hk))
  · exact .inl ((hG k).2 (.inr (.inl hk)))
  · rcases List.mem_or_eq_of_mem_set hx with hx | rfl
    · exact .inl ((hG k).2 (.inr (.inr ⟨x, hx, hk⟩)))
    · rcases hr k hk with e | e
      · exact .inl ((hG k).2 (.inr (.inr ⟨r, List.mem_of_getElem? hi, e⟩)))
      · exact .inr e

theorem osOf_set (rs : List OneR) (i : Nat) (r' : OneR) (f : OneM → OneM) {r : OneR} (hi : rs[i]? = some r) (hf : r'.o = f r.o) : osOf (rs.set i r') = (osOf rs).modify i f := by
  apply List.ext_getElem?
  intro j
  rw [List.getElem?_modify]
  simp only [osOf, List.getElem?_map]
  by_cases e : i = j
  · subst e
    rw [List.getElem?_set_self (List.getElem?_eq_some_iff.1 hi).1, hi]
    simp [hf]
  · rw [List.getElem?_set_ne e]
    cases rs[j]? <;> simp [e]

end
end Go.Proofs.YtmnmaenmoaehlaaGreatDoor
/-
  The document's own arena: a child is put in.
-/
namespace Go.Proofs.YtmnmaenmoaehlaaGreatDoor
open Go.RowKit

section
variable {w w' : World} {base bR g cap : Nat} {rs : List OneR}

theorem one_news (w : World) (e : TypeId) (v : Value) : ∀ j u, [v][j]? = some u → (w.alloc (.cells #[v] e)).cell? ((⟨w.heap.size, 0, none⟩ : Addr).add j) = some u :=
  World.news_of_block (w := w.alloc (.cells #[v] e)) (B := w.heap.size) (t := e) (fr := (0, 0)) (heap_alloc_new w _)

def insF (b : Int) (c : Nat) (x : Nat) : List Nat := if (x : Int) = b then [c, x] else [x]
theorem insO_flat (l : List Nat) (b : Int) (c : Nat) : insO l b c = if b = -1 then l.flatMap (insF b c) ++ [c] else l.flatMap (insF b c) := by
  unfold insO
  by_cases h : b = -1
  · rw [if_pos h, if_pos h]
    have : l.flatMap (insF b c) = l := insO_none (fun x _ => by omega)
    rw [this]
  · rw [if_neg h, if_neg h]; rfl

theorem ownsRow_base {w : World} {base : Nat} {e : TypeId} {size : Nat} {v : Value} {n : Nat} {xs : List Value} (h : w.ownsRow base e size v n xs) {k : Nat} (hk : v.ownBlock = some k) : base ≤ k ∧ k < w.heap.size := by
  obtain ⟨cur, hc⟩ := ownsRow_block h hk
  refine ⟨?_, lt_of_block hc⟩
  rcases h.2 with ⟨h', _⟩ | ⟨g', cap', cur, h', hb, hg, _⟩
  · subst h'; simp [Value.ownBlock] at hk
  · subst h'; simp [Value.ownBlock] at hk; subst hk; first | exact hb | exact hb.1

theorem ownsRow_ints {w : World} {base : Nat} {v : Value} {l : List Nat} (h : w.ownsRow base 3 1 v l.length (intsV l)) : ∃ a c, v = .slice a l.length c ∧ IntsIn w a l ∧ ∀ k, blk v = some k → v.ownBlock = some k := by
  rcases h.2 with ⟨rfl, h0⟩ | ⟨g, cap, cur, rfl, _, hg, _⟩
  · have : l = [] := List.eq_nil_of_length_eq_zero h0
    subst this
    exact ⟨none, 0, rfl, ⟨fun i x hi => by simp at hi⟩, fun k hk => by simp [blk] at hk⟩
  · refine ⟨some ⟨g, 0, none⟩, cap, rfl, ⟨fun i x hi => ⟨g, 0, rfl, ?_⟩⟩, fun k hk => by simpa [blk, Value.ownBlock] using hk⟩
    have hlt : i < l.length := (List.getElem?_eq_some_iff.1 hi).1
    have := h.cellAt i (by omega)
    rw [Nat.zero_add, this]
    simp [intsV, hi]

/-- A list that is being made: its numbers lie in new memory. -/
structure Acc (w0 wx : World) (v : Value) (xs : List Nat) : Prop where
  own : wx.ownsRow w0.heap.size 3 1 v xs.length (intsV xs)
  below : Below w0.heap.size w0 wx

theorem Acc.nil (w0 wx : World) (hb : Below w0.heap.size w0 wx) : Acc w0 wx (.slice none 0 0) [] := ⟨World.ownsRow_nil _ _ _ _, hb⟩
theorem Acc.step {w0 wx w1 : World} {v : Value} {xs : List Nat} {y g1 c1 : Nat} (h : Acc w0 wx v xs) (o : Obj) (hown : w1.ownsRow w0.heap.size 3 1 (.slice (some ⟨g1, 0, none⟩) (xs.length + 1) c1) (xs.length + 1) (intsV xs ++ [.int .i64 (y : Int)])) (hgrow : (wx.alloc o).grownBy w1 v.ownBlock) :
    Acc w0 w1 (.slice (some ⟨g1, 0, none⟩) (xs.length + 1) c1) (xs ++ [y]) := by
  refine ⟨by simpa [intsV] using hown, (h.below.alloc (by exact h.below.size) o).grown hgrow (by have := h.below.size; simp; omega) (fun k hk => (ownsRow_base h.own hk).1)⟩
theorem Acc.drew {w0 wx : World} {v : Value} {xs : List Nat} (h : Acc w0 wx v xs) : Acc w0 wx.drew v xs := ⟨h.own.drew, h.below.drew⟩

theorem link_close {wx : World} {v : Value} {xs : List Nat} (h : Rf w base bR g cap rs) (hacc : Acc w wx v xs) {p c : Nat} {rp rc : OneR} (hp : rs[p]? = some rp) (hc : rs[c]? = some rc) (hpc : p ≠ c) (hlen : xs.length ≤ 32768) (x : Int) :
    ∃ kv, Rf ((wx.setCell ⟨g, p * 10 + 9, none⟩ v).setCell ⟨g, c * 10 + 8, none⟩ (.int .i64 x)) base bR g cap ((rs.set p { rp with o := { rp.o with kids := xs }, kv := kv }).set c { rc with o := { rc.o with up := x } }) ∧
      Mod (fun k => k = g) w ((wx.setCell ⟨g, p * 10 + 9, none⟩ v).setCell ⟨g, c * 10 + 8, none⟩ (.int .i64 x)) ∧ (∀ k, blk kv = some k → w.heap.size ≤ k) := by
  have hx := h.below hacc.below
  obtain ⟨a, cp, hv, hin, hbk⟩ := ownsRow_ints hacc.own
  have hnew : ∀ k, blk v = some k → w.heap.size ≤ k ∧ k < wx.heap.size := fun k hk => ownsRow_base hacc.own (hbk k hk)
  have Lp := hx.lists hp
  have hbase : base ≤ w.heap.size := Nat.le_trans h.base_g (Nat.le_of_lt h.lt.2)
  have h1 := hx.setC (r' := { rp with o := { rp.o with kids := xs }, kv := v }) hp 9 (by omega) v rfl ⟨Lp.attrs, ⟨a, cp, hv, hin, hlen⟩, fun k e => by
    rcases e with e | e
    · exact Lp.held k (.inl e)
    · obtain ⟨e1, e2⟩ := hnew k e
      have := h.lt
      exact ⟨by omega, e2, by omega, by omega⟩⟩
  have hc' : (rs.set p { rp with o := { rp.o with kids := xs }, kv := v })[c]? = some rc := by rw [List.getElem?_set_ne hpc]; exact hc
  have Lc := h1.lists hc'
  have h2 := h1.setC (r' := { rc with o := { rc.o with up := x } }) hc' 8 (by omega) (.int .i64 x) rfl ⟨Lc.attrs, Lc.kids, Lc.held⟩
  exact ⟨v, h2, ((Mod.of_below hacc.below).trans (Mod.setCell (F := fun k => k = g) wx ⟨g, p * 10 + 9, none⟩ v rfl)).trans (Mod.setCell (F := fun k => k = g) _ ⟨g, c * 10 + 8, none⟩ _ rfl), fun k hk => (hnew k hk).1⟩

set_option maxHeartbeats 4000000 in
theorem refLink_ok (h : Rf w base bR g cap rs) (p c : Nat) (rp rc : OneR) (hp : rs[p]? = some rp) (hc : rs[c]? = some rc) (hpc : p ≠ c) (b : Int) (hb : b = -1 ∨ hasO (osOf rs) b = true) (hends : ∀ i, i < (osOf rs).length → ∃ path, PathOf (upO (osOf rs)) i path)
    (hk : parentM rp.o.kind = true) (hk0 : rc.o.kind ≠ 0) (hk5 : rc.o.kind ≠ 5) (hup : rc.o.up = -1) (hab : aboveO (osOf rs) p c = false) (hbu : b = -1 ∨ upIO (osOf rs) b = p) (hsmall : rp.o.kids.length + 1 ≤ 32768) (hnd : rp.o.kids.Nodup) (hmem : b = -1 ∨ ∃ x ∈ rp.o.kids, b = (x : Int)) :
    Calls Tryz.prog 15 #[.pointer (some ⟨bR, 0, none⟩), .int .i64 p, .int .i64 c, .int .i64 b] w fun e w' => e = .returned (.int .i64 0) ∧
      ∃ kv, Rf w' base bR g cap ((rs.set p { rp with o := { rp.o with kids := insO rp.o.kids b c }, kv := kv }).set c { rc with o := { rc.o with up := (p : Int) } }) ∧ Mod (fun k => k = g) w w' ∧ (∀ k, blk kv = some k → w.heap.size ≤ k) := by
  have hlp : p < rs.length := (List.getElem?_eq_some_iff.1 hp).1
  have hlc : c < rs.length := (List.getElem?_eq_some_iff.1 hc).1
  have HI := hide (fun k => refIs_any h k)
  have HP := hide (refParent_any h p rp hp)
  rw [hk] at HP
  have HAB := hide (refAbove_any h hends p c)
  rw [hab] at HAB
  have i1 : hasO (osOf rs) p = true := hasO_of (osOf_get hp)
  have i2 : hasO (osOf rs) c = true := hasO_of (osOf_get hc)
  have hA := h.cR
  have hn := h.most
  have c0 := (h.cells10 hc).1
  have c8 := (h.cells10 hc).2.2.2.2.2.2.2.2.1
  rw [hup] at c8
  have c9 := (h.cells10 hp).2.2.2.2.2.2.2.2.2
  obtain ⟨a, cp, hkv, hin, hkl⟩ := h.kids p rp hp
  rw [hkv] at c9
  obtain ⟨i0, hi0, hz0, hz1, hz2⟩ := info_parts Tryz.info3
  generalize hks : rp.o.kids = ks at *
  have f0 : (rc.o.kind == 0) = false := beq_eq_false_iff_ne.2 hk0
  have f5 : (rc.o.kind == 5) = false := beq_eq_false_iff_ne.2 hk5
  have HIN := hide hin
  have HH := hide h
  have HPP := hide hp
  have HCC := hide hc
  clear hin
  have HND := hide hnd
  have HMEM := hide hmem
  clear hnd hmem
  rcases hb with rfl | hb
  · clear hbu
    go_enter Tryz.func15, Tryz.ntmps15
    go_wp2_with (first
      | (go_at_call 42; refine ((unhide HI) _).mono ?_; rintro e w' ⟨rfl, rfl⟩)
      | (go_at_call 43; refine (unhide HP).mono ?_; rintro e w' ⟨rfl, rfl⟩)
      | (go_at_call 44; refine (unhide HAB).mono ?_; rintro e w' ⟨rfl, rfl⟩))
    go_loopg [9, 11] ks.length (fun k s9 s11 wx => ∃ (j : Nat) (xs : List Nat), s11 = .int .i64 j ∧ j + k = ks.length ∧ xs = (ks.take j).flatMap (insF (-1) c) ∧ xs.length ≤ 2 * j ∧ Acc w wx s9 xs)
    case atStart => exact ⟨0, [], rfl, by omega, by simp, by simp, Acc.nil w w (Below.refl _ _)⟩
    case round =>
      obtain ⟨j, xs, rfl, hjk, hxs, hxl, hacc⟩ := hrel
      have HC := hide hacc
      have HXS := hide hxs
      clear hacc hxs
      by_cases hj : j < ks.length
      · have hx : ks[j]? = some ks[j] := List.getElem?_eq_getElem hj
        generalize ks[j] = y at hx
        obtain ⟨bb, off, rfl, hcw⟩ := (unhide HIN).cells j y hx
        have hblt : bb < w.heap.size := World.block_lt_of_cell? w _ hcw
        have hcj := ((unhide HC).below.cell (p := ⟨bb, off + j, none⟩) hblt).trans hcw
        have hjz : (j : Int) < (ks.length : Int) := by omega
        have htk : (ks.take (j + 1)).flatMap (insF (-1) c) = (ks.take j).flatMap (insF (-1) c) ++ insF (-1) c y := by
          rw [List.take_add_one, hx]; simp
        have HTK := hide htk
        have HX := hide hx
        clear htk hx
        have hyb : (y : Int) ≠ -1 := by omega
        have hne : ((y : Int) == -1) = false := beq_eq_false_iff_ne.2 hyb
        have hin1 : insF (-1) c y = [y] := by rw [insF, if_neg hyb]
        have HIN1 := hide hin1
        clear hin1
        go_wp2_with (first
          | (at_builtin; go_must (refine wpList_append_lies _ (by rfl) _ _ 56 (by rfl) w.heap.size 3 i0 _ 1 8 Tryz.underlying56 hi0 hz0 hz1 hz2 rfl (by omega) u9 xs.length (intsV xs) (by rfl) ((unhide HC).own.alloc _) ⟨wr.heap.size, 0, none⟩ 1 1 [.int .i64 (y : Int)] (by rfl) (by rfl) (one_news wr 3 _) (by simp [Value.oneCell']) (by omega) (by unfold maxLen; omega) (by omega) (by have := (unhide HC).below.size; simp; omega) _ rfl ?_); intro g1 c1 w1 hown1 hgrow1 hat1 hlt1; have HC1 := hide ((unhide HC).step (y := y) _ hown1 hgrow1); clear hown1 hgrow1 hat1 hlt1))
        go_roundg (gk - 1)
        case measure => omega
        case rel => exact ⟨j + 1, xs ++ [y], by go_num, by omega, by rw [unhide HTK, unhide HXS, unhide HIN1], by simp; omega, unhide HC1⟩
      · have hjz : ¬ (j : Int) < (ks.length : Int) := by omega
        obtain rfl : j = ks.length := by omega
        have hxs' : xs = ks.flatMap (insF (-1) c) := by rw [unhide HXS, List.take_length]
        have HXS' := hide hxs'
        clear hxs'
        have hfin : xs ++ [c] = insO ks (-1) c := by rw [insO_flat, if_pos rfl, unhide HXS']
        have hlen1 : (xs ++ [c]).length ≤ 32768 := by
          have : xs = ks := by rw [unhide HXS']; exact insO_none (fun x _ => by omega)
          rw [this]; simp; omega
        have HFIN := hide hfin
        have HLEN := hide hlen1
        clear hfin hlen1
        go_wp2_with (first
          | (at_builtin; go_must (refine wpList_append_lies _ (by rfl) _ _ 56 (by rfl) w.heap.size 3 i0 _ 1 8 Tryz.underlying56 hi0 hz0 hz1 hz2 rfl (by omega) u9 xs.length (intsV xs) (by rfl) ((unhide HC).own.alloc _) ⟨wr.heap.size, 0, none⟩ 1 1 [.int .i64 (c : Int)] (by rfl) (by rfl) (one_news wr 3 _) (by simp [Value.oneCell']) (by omega) (by unfold maxLen; omega) (by omega) (by have := (unhide HC).below.size; simp; omega) _ rfl ?_); intro g1 c1 w1 hown1 hgrow1 hat1 hlt1; have HC1 := hide ((unhide HC).step (y := c) _ hown1 hgrow1); clear hown1 hgrow1 hat1 hlt1; have har := (unhide HH).below (unhide HC1).below; have hA1 := har.cR; have fg1 := har.fg; have nR := har.neRg; obtain ⟨v9, d9⟩ := har.there (unhide HPP) 9 (by omega); obtain ⟨v8, d8⟩ := har.there (unhide HCC) 8 (by omega); clear har))
        go_ret
        refine ⟨rfl, ?_⟩
        rw [← unhide HFIN]
        exact link_close (unhide HH) (unhide HC1) (unhide HPP) (unhide HCC) hpc (unhide HLEN) p
  · have hb1 : ¬ b = -1 := by
      have := of_decide_eq_true hb
      omega
    obtain ⟨bi, ob, rfl, hob⟩ := hasO_yes hb
    have hbl : bi < rs.length := by rw [← osOf_len]; exact (List.getElem?_eq_some_iff.1 hob).1
    obtain ⟨rb, hrb⟩ : ∃ r, rs[bi]? = some r := ⟨_, List.getElem?_eq_getElem hbl⟩
    have hro := osOf_get hrb
    rw [hob] at hro
    cases hro
    have hbu' : rb.o.up = (p : Int) := by
      rcases hbu with e | e
      · exact absurd e hb1
      · rw [upIO_of hob] at e; exact e
    have c8b := (h.cells10 hrb).2.2.2.2.2.2.2.2.1
    rw [hbu'] at c8b
    have hbn : ((bi : Int) != -1) = true := by rw [bne_iff_ne]; exact hb1
    have hpp : ((p : Int) != (p : Int)) = false := by simp
    have hbe : ((bi : Int) == -1) = false := beq_eq_false_iff_ne.2 hb1
    clear hbu hbu' hob hrb
    go_enter Tryz.func15, Tryz.ntmps15
    go_wp2_with (first
      | (go_at_call 42; refine ((unhide HI) _).mono ?_; rintro e w' ⟨rfl, rfl⟩)
      | (go_at_call 43; refine (unhide HP).mono ?_; rintro e w' ⟨rfl, rfl⟩)
      | (go_at_call 44; refine (unhide HAB).mono ?_; rintro e w' ⟨rfl, rfl⟩))
    go_loopg [9, 11] ks.length (fun k s9 s11 wx => ∃ (j : Nat) (xs : List Nat), s11 = .int .i64 j ∧ j + k = ks.length ∧ xs = (ks.take j).flatMap (insF bi c) ∧ xs.length ≤ 2 * j ∧ Acc w wx s9 xs)
    case atStart => exact ⟨0, [], rfl, by omega, by simp, by simp, Acc.nil w w (Below.refl _ _)⟩
    case round =>
      obtain ⟨j, xs, rfl, hjk, hxs, hxl, hacc⟩ := hrel
      have HC := hide hacc
      have HXS := hide hxs
      clear hacc hxs
      by_cases hj : j < ks.length
      · have hx : ks[j]? = some ks[j] := List.getElem?_eq_getElem hj
        generalize ks[j] = y at hx
        obtain ⟨bb, off, rfl, hcw⟩ := (unhide HIN).cells j y hx
        have hblt : bb < w.heap.size := World.block_lt_of_cell? w _ hcw
        have hcj := ((unhide HC).below.cell (p := ⟨bb, off + j, none⟩) hblt).trans hcw
        have hjz : (j : Int) < (ks.length : Int) := by omega
        have htk : (ks.take (j + 1)).flatMap (insF bi c) = (ks.take j).flatMap (insF bi c) ++ insF bi c y := by
          rw [List.take_add_one, hx]; simp
        have HTK := hide htk
        have HX := hide hx
        clear htk hx
        by_cases hyb : (y : Int) = bi
        · obtain rfl : y = bi := by omega
          have heq : ((y : Int) == (y : Int)) = true := by simp
          have hin1 : insF y c y = [c, y] := by rw [insF, if_pos rfl]
          clear hyb
          have HIN1 := hide hin1
          clear hin1
          set_option maxRecDepth 10000 in
          go_wp2_with (first
            | (at_builtin; go_must (refine wpList_append_lies _ (by rfl) _ _ 56 (by rfl) w.heap.size 3 i0 _ 1 8 Tryz.underlying56 hi0 hz0 hz1 hz2 rfl (by omega) _ _ _ (by rfl) (by first | exact (unhide HC1).own.alloc _ | exact (unhide HC).own.alloc _) ⟨_, 0, none⟩ 1 1 [_] (by rfl) (by rfl) (one_news _ 3 _) (by simp [Value.oneCell']) (by omega) (by unfold maxLen; first | omega | (simp; omega)) (by first | omega | (simp; omega)) (by have := (unhide HC).below.size; first | (have h9 := (unhide HC1).below.size; simp; omega) | (simp; omega)) _ rfl ?_); intro g1 c1 w1 hown1 hgrow1 hat1 hlt1; first | (have HC2 := hide ((unhide HC1).step (y := y) _ hown1 hgrow1)) | (have HC1 := hide ((unhide HC).step (y := c) _ hown1 hgrow1); have hcj1 := (((unhide HC1).below.cell (p := ⟨bb, off + j, none⟩) hblt).trans hcw)); clear hown1 hgrow1 hat1 hlt1))
          go_roundg (gk - 1)
          case measure => omega
          case rel => exact ⟨j + 1, xs ++ [c] ++ [y], by go_num, by omega, by rw [unhide HTK, unhide HXS, unhide HIN1]; simp, by simp; omega, by have := unhide HC2; rw [List.length_append] at this; exact this⟩
        · have hne : ((y : Int) == bi) = false := beq_eq_false_iff_ne.2 hyb
          have hin1 : insF bi c y = [y] := by rw [insF, if_neg hyb]
          have HIN1 := hide hin1
          clear hin1
          go_wp2_with (first
            | (at_builtin; go_must (refine wpList_append_lies _ (by rfl) _ _ 56 (by rfl) w.heap.size 3 i0 _ 1 8 Tryz.underlying56 hi0 hz0 hz1 hz2 rfl (by omega) u9 xs.length (intsV xs) (by rfl) ((unhide HC).own.alloc _) ⟨wr.heap.size, 0, none⟩ 1 1 [.int .i64 (y : Int)] (by rfl) (by rfl) (one_news wr 3 _) (by simp [Value.oneCell']) (by omega) (by unfold maxLen; omega) (by omega) (by have := (unhide HC).below.size; simp; omega) _ rfl ?_); intro g1 c1 w1 hown1 hgrow1 hat1 hlt1; have HC1 := hide ((unhide HC).step (y := y) _ hown1 hgrow1); clear hown1 hgrow1 hat1 hlt1))
          go_roundg (gk - 1)
          case measure => omega
          case rel => exact ⟨j + 1, xs ++ [y], by go_num, by omega, by rw [unhide HTK, unhide HXS, unhide HIN1], by simp; omega, unhide HC1⟩
      · have hjz : ¬ (j : Int) < (ks.length : Int) := by omega
        obtain rfl : j = ks.length := by omega
        have hxs' : xs = ks.flatMap (insF bi c) := by rw [unhide HXS, List.take_length]
        have HXS' := hide hxs'
        clear hxs'
        have hfin : xs = insO ks bi c := by rw [insO_flat, if_neg hb1, unhide HXS']
        have hlen1 : xs.length ≤ 32768 := by
          rw [hfin]
          obtain ⟨A, B, h1, h2, _⟩ := insO_cut (unhide HND) (unhide HMEM) c
          rw [h2]
          rw [h1] at hsmall
          simp at hsmall ⊢
          omega
        obtain ⟨a9, k9, e9, _⟩ := ownsRow_ints (unhide HC).own
        subst e9
        have HFIN := hide hfin
        have HLEN := hide hlen1
        have har := (unhide HH).below (unhide HC).below
        have hA1 := har.cR
        have fg1 := har.fg
        have nR := har.neRg
        obtain ⟨v9, d9⟩ := har.there (unhide HPP) 9 (by omega)
        obtain ⟨v8, d8⟩ := har.there (unhide HCC) 8 (by omega)
        clear hfin hlen1 har
        set_option maxRecDepth 10000 in
        go_wp2
        go_ret
        refine ⟨rfl, ?_⟩
        rw [← unhide HFIN]
        exact link_close (unhide HH) (unhide HC) (unhide HPP) (unhide HCC) hpc (unhide HLEN) p
end
end Go.Proofs.YtmnmaenmoaehlaaGreatDoor
/-
  The document's own arena: what Link refuses.
-/
namespace Go.Proofs.YtmnmaenmoaehlaaGreatDoor
open Go.RowKit

section
variable {w w' : World} {base bR g cap : Nat} {rs : List OneR}

theorem refLink_none (h : Rf w base bR g cap rs) (p c b : Int) (hno : (hasO (osOf rs) p && hasO (osOf rs) c && (b == -1 || hasO (osOf rs) b)) = false) :
    Calls Tryz.prog 15 #[.pointer (some ⟨bR, 0, none⟩), .int .i64 p, .int .i64 c, .int .i64 b] w fun e w' => e = .returned (.int .i64 6) ∧ w = w' := by
  have HI := hide (fun k => refIs_any h k)
  clear h
  cases h1 : hasO (osOf rs) p with
  | false =>
    clear hno
    go_enter Tryz.func15, Tryz.ntmps15
    go_wp2_with (go_at_call 42; refine ((unhide HI) _).mono ?_; rintro e w' ⟨rfl, rfl⟩)
    go_ret
    exact ⟨rfl, rfl⟩
  | true =>
    cases h2 : hasO (osOf rs) c with
    | false =>
      clear hno
      go_enter Tryz.func15, Tryz.ntmps15
      go_wp2_with (go_at_call 42; refine ((unhide HI) _).mono ?_; rintro e w' ⟨rfl, rfl⟩)
      go_ret
      exact ⟨rfl, rfl⟩
    | true =>
      rw [h1, h2] at hno
      simp only [Bool.and_self, Bool.true_and, Bool.or_eq_false_iff] at hno
      have h3 : (b != -1) = true := by rw [bne_iff_ne]; simpa using hno.1
      have h4 := hno.2
      clear hno
      go_enter Tryz.func15, Tryz.ntmps15
      go_wp2_with (go_at_call 42; refine ((unhide HI) _).mono ?_; rintro e w' ⟨rfl, rfl⟩)
      go_ret
      exact ⟨rfl, rfl⟩

/-- The first question is answered: all three are nodes. -/
structure Three (rs : List OneR) (p c : Nat) (b : Int) (rp rc : OneR) : Prop where
  hp : rs[p]? = some rp
  hc : rs[c]? = some rc
  hb : b = -1 ∨ hasO (osOf rs) b = true

set_option maxHeartbeats 1000000 in
theorem refLink_kind (h : Rf w base bR g cap rs) {p c : Nat} {b : Int} {rp rc : OneR} (h3 : Three rs p c b rp rc) (hk : parentM rp.o.kind = false ∨ rc.o.kind = 0 ∨ rc.o.kind = 5) :
    Calls Tryz.prog 15 #[.pointer (some ⟨bR, 0, none⟩), .int .i64 p, .int .i64 c, .int .i64 b] w fun e w' => e = .returned (.int .i64 10) ∧ Below w.heap.size w w' := by
  have hlc : c < rs.length := (List.getElem?_eq_some_iff.1 h3.hc).1
  have HI := hide (fun k => refIs_any h k)
  have HP := hide (refParent_any h p rp h3.hp)
  have i1 : hasO (osOf rs) p = true := hasO_of (osOf_get h3.hp)
  have i2 : hasO (osOf rs) c = true := hasO_of (osOf_get h3.hc)
  have hA := h.cR
  have hn := h.most
  have c0 := (h.cells10 h3.hc).1
  have hbb : (b != -1) = false ∨ ((b != -1) = true ∧ hasO (osOf rs) b = true) := by
    rcases h3.hb with e | e
    · exact .inl (by simp [e])
    · by_cases e1 : b = -1
      · exact .inl (by simp [e1])
      · exact .inr ⟨by rw [bne_iff_ne]; exact e1, e⟩
  clear h h3
  cases hpk : parentM rp.o.kind with
  | false =>
    rw [hpk] at HP
    clear hk
    rcases hbb with hb1 | ⟨hb1, hb2⟩
    all_goals
      go_enter Tryz.func15, Tryz.ntmps15
      go_wp2_with (first
        | (go_at_call 42; refine ((unhide HI) _).mono ?_; rintro e w' ⟨rfl, rfl⟩)
        | (go_at_call 43; refine (unhide HP).mono ?_; rintro e w' ⟨rfl, rfl⟩))
      go_ret
      exact ⟨rfl, Below.refl _ _⟩
  | true =>
    rw [hpk] at HP hk
    simp only [Bool.true_eq_false, false_or] at hk
    by_cases hk0 : rc.o.kind = 0
    · rw [hk0] at c0
      clear hk hk0
      rcases hbb with hb1 | ⟨hb1, hb2⟩
      all_goals
        go_enter Tryz.func15, Tryz.ntmps15
        go_wp2_with (first
          | (go_at_call 42; refine ((unhide HI) _).mono ?_; rintro e w' ⟨rfl, rfl⟩)
          | (go_at_call 43; refine (unhide HP).mono ?_; rintro e w' ⟨rfl, rfl⟩))
        go_ret
        exact ⟨rfl, Below.refl _ _⟩
    · have hk5 : rc.o.kind = 5 := hk.resolve_left hk0
      rw [hk5] at c0
      clear hk hk0 hk5
      rcases hbb with hb1 | ⟨hb1, hb2⟩
      all_goals
        go_enter Tryz.func15, Tryz.ntmps15
        go_wp2_with (first
          | (go_at_call 42; refine ((unhide HI) _).mono ?_; rintro e w' ⟨rfl, rfl⟩)
          | (go_at_call 43; refine (unhide HP).mono ?_; rintro e w' ⟨rfl, rfl⟩))
        go_ret
        exact ⟨rfl, Below.refl _ _⟩

set_option maxHeartbeats 1000000 in
theorem refLink_linked (h : Rf w base bR g cap rs) {p c : Nat} {b : Int} {rp rc : OneR} (h3 : Three rs p c b rp rc) (hends : ∀ i, i < (osOf rs).length → ∃ path, PathOf (upO (osOf rs)) i path) (hk : parentM rp.o.kind = true) (hk0 : rc.o.kind ≠ 0) (hk5 : rc.o.kind ≠ 5)
    (hl : rc.o.up ≠ -1 ∨ aboveO (osOf rs) p c = true) :
    Calls Tryz.prog 15 #[.pointer (some ⟨bR, 0, none⟩), .int .i64 p, .int .i64 c, .int .i64 b] w fun e w' => e = .returned (.int .i64 11) ∧ Below w.heap.size w w' := by
  have hlc : c < rs.length := (List.getElem?_eq_some_iff.1 h3.hc).1
  have HI := hide (fun k => refIs_any h k)
  have HP := hide (refParent_any h p rp h3.hp)
  rw [hk] at HP
  have HAB := hide (refAbove_any h hends p c)
  have i1 : hasO (osOf rs) p = true := hasO_of (osOf_get h3.hp)
  have i2 : hasO (osOf rs) c = true := hasO_of (osOf_get h3.hc)
  have hA := h.cR
  have hn := h.most
  have c0 := (h.cells10 h3.hc).1
  have c8 := (h.cells10 h3.hc).2.2.2.2.2.2.2.2.1
  have f0 : (rc.o.kind == 0) = false := beq_eq_false_iff_ne.2 hk0
  have f5 : (rc.o.kind == 5) = false := beq_eq_false_iff_ne.2 hk5
  have hbb : (b != -1) = false ∨ ((b != -1) = true ∧ hasO (osOf rs) b = true) := by
    rcases h3.hb with e | e
    · exact .inl (by simp [e])
    · by_cases e1 : b = -1
      · exact .inl (by simp [e1])
      · exact .inr ⟨by rw [bne_iff_ne]; exact e1, e⟩
  clear h h3 hends hk hk0 hk5
  by_cases hu : rc.o.up = -1
  · have hab : aboveO (osOf rs) p c = true := hl.resolve_left (by simpa using hu)
    rw [hab] at HAB
    rw [hu] at c8
    clear hl hu hab
    rcases hbb with hb1 | ⟨hb1, hb2⟩
    all_goals
      go_enter Tryz.func15, Tryz.ntmps15
      go_wp2_with (first
        | (go_at_call 42; refine ((unhide HI) _).mono ?_; rintro e w' ⟨rfl, rfl⟩)
        | (go_at_call 43; refine (unhide HP).mono ?_; rintro e w' ⟨rfl, rfl⟩)
        | (go_at_call 44; refine (unhide HAB).mono ?_; rintro e w' ⟨rfl, rfl⟩))
      go_ret
      exact ⟨rfl, Below.refl _ _⟩
  · have hu1 : (rc.o.up != -1) = true := by rw [bne_iff_ne]; exact hu
    clear hl
    rcases hbb with hb1 | ⟨hb1, hb2⟩
    all_goals
      go_enter Tryz.func15, Tryz.ntmps15
      go_wp2_with (first
        | (go_at_call 42; refine ((unhide HI) _).mono ?_; rintro e w' ⟨rfl, rfl⟩)
        | (go_at_call 43; refine (unhide HP).mono ?_; rintro e w' ⟨rfl, rfl⟩)
        | (go_at_call 44; refine (unhide HAB).mono ?_; rintro e w' ⟨rfl, rfl⟩))
      go_ret
      exact ⟨rfl, Below.refl _ _⟩

set_option maxHeartbeats 1000000 in
theorem refLink_arg (h : Rf w base bR g cap rs) {p c : Nat} {b : Int} {rp rc : OneR} (h3 : Three rs p c b rp rc) (hends : ∀ i, i < (osOf rs).length → ∃ path, PathOf (upO (osOf rs)) i path) (hk : parentM rp.o.kind = true) (hk0 : rc.o.kind ≠ 0) (hk5 : rc.o.kind ≠ 5)
    (hu : rc.o.up = -1) (hab : aboveO (osOf rs) p c = false) (hb1 : b ≠ -1) (hbu : upIO (osOf rs) b ≠ p) :
    Calls Tryz.prog 15 #[.pointer (some ⟨bR, 0, none⟩), .int .i64 p, .int .i64 c, .int .i64 b] w fun e w' => e = .returned (.int .i64 1) ∧ Below w.heap.size w w' := by
  have hlc : c < rs.length := (List.getElem?_eq_some_iff.1 h3.hc).1
  have HI := hide (fun k => refIs_any h k)
  have HP := hide (refParent_any h p rp h3.hp)
  rw [hk] at HP
  have HAB := hide (refAbove_any h hends p c)
  rw [hab] at HAB
  have i1 : hasO (osOf rs) p = true := hasO_of (osOf_get h3.hp)
  have i2 : hasO (osOf rs) c = true := hasO_of (osOf_get h3.hc)
  have hA := h.cR
  have hn := h.most
  have c0 := (h.cells10 h3.hc).1
  have c8 := (h.cells10 h3.hc).2.2.2.2.2.2.2.2.1
  rw [hu] at c8
  have f0 : (rc.o.kind == 0) = false := beq_eq_false_iff_ne.2 hk0
  have f5 : (rc.o.kind == 5) = false := beq_eq_false_iff_ne.2 hk5
  have hb2 : hasO (osOf rs) b = true := h3.hb.resolve_left hb1
  obtain ⟨bi, ob, rfl, hob⟩ := hasO_yes hb2
  have hbl : bi < rs.length := by rw [← osOf_len]; exact (List.getElem?_eq_some_iff.1 hob).1
  obtain ⟨rb, hrb⟩ : ∃ r, rs[bi]? = some r := ⟨_, List.getElem?_eq_getElem hbl⟩
  have hro := osOf_get hrb
  rw [hob] at hro
  cases hro
  have c8b := (h.cells10 hrb).2.2.2.2.2.2.2.2.1
  rw [upIO_of hob] at hbu
  have hbn : ((bi : Int) != -1) = true := by rw [bne_iff_ne]; exact hb1
  have hpp : (rb.o.up != (p : Int)) = true := by rw [bne_iff_ne]; exact hbu
  clear h h3 hends hk hk0 hk5 hu hab hbu hob hrb hb1
  go_enter Tryz.func15, Tryz.ntmps15
  go_wp2_with (first
    | (go_at_call 42; refine ((unhide HI) _).mono ?_; rintro e w' ⟨rfl, rfl⟩)
    | (go_at_call 43; refine (unhide HP).mono ?_; rintro e w' ⟨rfl, rfl⟩)
    | (go_at_call 44; refine (unhide HAB).mono ?_; rintro e w' ⟨rfl, rfl⟩))
  go_ret
  exact ⟨rfl, Below.refl _ _⟩
end
end Go.Proofs.YtmnmaenmoaehlaaGreatDoor
/-
  The document's own arena: Link, told by plain nodes; a child is taken out.
-/
namespace Go.Proofs.YtmnmaenmoaehlaaGreatDoor
open Go.RowKit

section
variable {w w' : World} {base bR : Nat} {os : List OneM} {G : Nat → Prop} {ns : List NodeM}

/-- Two nodes told anew. -/
theorem urf_two {g cap : Nat} {rs : List OneR} {p c : Nat} {rp rc : OneR} {ks : List Nat} {kv : Value} {x : Int} (hG : ∀ k, G k ↔ footR bR g rs k) (hp : rs[p]? = some rp) (hc : rs[c]? = some rc)
    (h : Rf w' base bR g cap ((rs.set p { rp with o := { rp.o with kids := ks }, kv := kv }).set c { rc with o := { rc.o with up := x } })) (hm : Mod (fun k => k = g) w w') (hkv : ∀ k, blk kv = some k → w.heap.size ≤ k) :
    URf G w w' base bR (osOf ((rs.set p { rp with o := { rp.o with kids := ks }, kv := kv }).set c { rc with o := { rc.o with up := x } })) := by
  refine ⟨_, ⟨g, cap, _, h, rfl, fun k => Iff.rfl⟩, hm.mono (fun k _ hk => (hG k).2 (.inr (.inl hk))), fun k hk => ?_⟩
  rcases hk with hk | hk | ⟨y, hy, hk⟩
  · exact .inl ((hG k).2 (.inl hk))
  · exact .inl ((hG k).2 (.inr (.inl hk)))
  · rcases List.mem_or_eq_of_mem_set hy with hy | rfl
    · rcases List.mem_or_eq_of_mem_set hy with hy | rfl
      · exact .inl ((hG k).2 (.inr (.inr ⟨y, hy, hk⟩)))
      · rcases hk with hk | hk
        · exact .inl ((hG k).2 (.inr (.inr ⟨rp, List.mem_of_getElem? hp, .inl hk⟩)))
        · exact .inr (hkv k hk)
    · exact .inl ((hG k).2 (.inr (.inr ⟨rc, List.mem_of_getElem? hc, hk⟩)))

theorem osOf_two {rs : List OneR} {p c : Nat} {rp rc : OneR} (hp : rs[p]? = some rp) (hc : rs[c]? = some rc) (hpc : p ≠ c) (kv : Value) (x : Int) (f : List Nat → List Nat) :
    osOf ((rs.set p { rp with o := { rp.o with kids := f rp.o.kids }, kv := kv }).set c { rc with o := { rc.o with up := x } }) = ((osOf rs).modify p fun o => { o with kids := f o.kids }).modify c fun o => { o with up := x } := by
  rw [osOf_set _ c _ (fun o => { o with up := x }) (by rw [List.getElem?_set_ne hpc]; exact hc) rfl, osOf_set rs p _ (fun o => { o with kids := f o.kids }) hp rfl]

theorem Sim.kids_lt {os : List OneM} (hs : Sim ns os) {p : Nat} {op : OneM} (hop : os[p]? = some op) {c : Nat} (hc : c < os.length) (hn : c ∉ op.kids) : op.kids.length + 1 ≤ os.length := by
  have hK := hs.kids p op hop
  have hnd : (c :: op.kids).Nodup := List.nodup_cons.2 ⟨hn, hK.nodup⟩
  have := List.Nodup.length_le_of_subset hnd (l₂ := List.range os.length) (fun x hx => by
    rw [List.mem_range]
    rcases List.mem_cons.1 hx with rfl | hx
    · exact hc
    · have := hK.mem x hx; rw [hs.len] at this; exact this)
  simpa using this

theorem refLink_sim (hS : RfS w base bR os G) (hs : Sim ns os) (p c b : Int) :
    Calls Tryz.prog 15 #[.pointer (some ⟨bR, 0, none⟩), .int .i64 p, .int .i64 c, .int .i64 b] w fun e w' => e = .returned (.int .i64 (linkE os p c b)) ∧ URf G w w' base bR (linkR os p c b) := by
  have hS0 := hS
  obtain ⟨g, cap, rs, h, rfl, hG⟩ := hS
  have keep : ∀ {e : Int}, linkE (osOf rs) p c b = e → e ≠ 0 → linkR (osOf rs) p c b = osOf rs := fun {e} he hne => by rw [linkR, he, if_neg hne]
  by_cases hno : (hasO (osOf rs) p && hasO (osOf rs) c && (b == -1 || hasO (osOf rs) b)) = false
  · have e6 : linkE (osOf rs) p c b = 6 := by rw [linkE, if_pos hno]
    rw [e6, keep e6 (by decide)]
    exact (refLink_none h p c b hno).mono fun e w' ⟨h1, h2⟩ => ⟨h1, hS0.upd (h2 ▸ Below.refl _ _)⟩
  · have hno' : hasO (osOf rs) p = true ∧ hasO (osOf rs) c = true ∧ (b = -1 ∨ hasO (osOf rs) b = true) := by
      have := hno
      simp only [Bool.not_eq_false, Bool.and_eq_true, Bool.or_eq_true, beq_iff_eq] at this
      exact ⟨this.1.1, this.1.2, this.2⟩
    obtain ⟨hp, hc, hb⟩ := hno'
    obtain ⟨pi, op, rfl, hop⟩ := hasO_yes hp
    obtain ⟨ci, oc, rfl, hoc⟩ := hasO_yes hc
    have hpl : pi < rs.length := by rw [← osOf_len]; exact (List.getElem?_eq_some_iff.1 hop).1
    have hcl : ci < rs.length := by rw [← osOf_len]; exact (List.getElem?_eq_some_iff.1 hoc).1
    obtain ⟨rp, hrp⟩ : ∃ r, rs[pi]? = some r := ⟨_, List.getElem?_eq_getElem hpl⟩
    obtain ⟨rc, hrc⟩ : ∃ r, rs[ci]? = some r := ⟨_, List.getElem?_eq_getElem hcl⟩
    have e1 := osOf_get hrp
    rw [hop] at e1
    cases e1
    have e2 := osOf_get hrc
    rw [hoc] at e2
    cases e2
    have h3 : Three rs pi ci b rp rc := ⟨hrp, hrc, hb⟩
    have hE : linkE (osOf rs) pi ci b = if parentM rp.o.kind = false ∨ rc.o.kind = 0 ∨ rc.o.kind = 5 then 10 else if rc.o.up ≠ -1 ∨ aboveO (osOf rs) pi ci = true then 11 else if b ≠ -1 ∧ upIO (osOf rs) b ≠ pi then 1 else 0 := by
      rw [linkE, if_neg hno, kindO_of hop, kindO_of hoc, upIO_of hoc]
    by_cases k1 : parentM rp.o.kind = false ∨ rc.o.kind = 0 ∨ rc.o.kind = 5
    · rw [if_pos k1] at hE
      rw [hE, keep hE (by decide)]
      exact (refLink_kind h h3 k1).mono fun e w' ⟨h1, h2⟩ => ⟨h1, hS0.upd h2⟩
    · rw [if_neg k1] at hE
      have hk : parentM rp.o.kind = true := by
        cases hh : parentM rp.o.kind with
        | true => rfl
        | false => exact absurd (.inl hh) k1
      have hk0 : rc.o.kind ≠ 0 := fun e => k1 (.inr (.inl e))
      have hk5 : rc.o.kind ≠ 5 := fun e => k1 (.inr (.inr e))
      by_cases k2 : rc.o.up ≠ -1 ∨ aboveO (osOf rs) pi ci = true
      · rw [if_pos k2] at hE
        rw [hE, keep hE (by decide)]
        exact (refLink_linked h h3 hs.ends hk hk0 hk5 k2).mono fun e w' ⟨h1, h2⟩ => ⟨h1, hS0.upd h2⟩
      · rw [if_neg k2] at hE
        have hup : rc.o.up = -1 := Decidable.byContradiction fun e => k2 (.inl e)
        have hab : aboveO (osOf rs) pi ci = false := by
          cases hh : aboveO (osOf rs) pi ci with
          | false => rfl
          | true => exact absurd (.inr hh) k2
        by_cases k3 : b ≠ -1 ∧ upIO (osOf rs) b ≠ pi
        · rw [if_pos k3] at hE
          rw [hE, keep hE (by decide)]
          exact (refLink_arg h h3 hs.ends hk hk0 hk5 hup hab k3.1 k3.2).mono fun e w' ⟨h1, h2⟩ => ⟨h1, hS0.upd h2⟩
        · rw [if_neg k3] at hE
          obtain ⟨path, hpath⟩ := hs.ends pi (by rw [osOf_len]; exact hpl)
          have hnot : ci ∉ path := fun e => by
            have := aboveO_of hop (hasO_of hoc) hpath
            rw [hab, mem_inPath.2 e] at this; cases this
          have hpc : pi ≠ ci := fun e => hnot (e ▸ path_head hpath)
          have hcout : ci ∉ rp.o.kids := fun hx => by
            obtain ⟨m, hm, hu⟩ := hs.down pi rp.o ci hop hx
            rw [hoc] at hm; cases hm; omega
          have hbu : b = -1 ∨ upIO (osOf rs) b = pi := by
            by_cases e : b = -1
            · exact .inl e
            · exact .inr (Decidable.byContradiction fun e2 => k3 ⟨e, e2⟩)
          have hmem : b = -1 ∨ ∃ x ∈ rp.o.kids, b = (x : Int) := by
            rcases hb with hb | hb
            · exact .inl hb
            · rcases hbu with hbu | hbu
              · exact .inl hbu
              · obtain ⟨bi, ob, rfl, hob⟩ := hasO_yes hb
                rw [upIO_of hob] at hbu
                rcases hs.up bi ob hob with e | ⟨q, m, e, hqm, hi⟩
                · omega
                · have : q = pi := by omega
                  subst this
                  rw [hop] at hqm; cases hqm
                  exact .inr ⟨bi, hi, rfl⟩
          have hsm : rp.o.kids.length + 1 ≤ 32768 := by
            have := hs.kids_lt hop (by rw [osOf_len]; exact hcl) hcout
            rw [osOf_len] at this
            have := h.most; omega
          have hR : linkR (osOf rs) pi ci b = linkO (osOf rs) pi ci b := by rw [linkR, hE, if_pos rfl]; simp
          rw [hE, hR]
          refine (refLink_ok h pi ci rp rc hrp hrc hpc b hb hs.ends hk hk0 hk5 hup hab hbu hsm (hs.kids pi rp.o hop).nodup hmem).mono fun e w' ⟨h1, kv, h2, h3, h4⟩ => ⟨h1, ?_⟩
          have := urf_two hG hrp hrc h2 h3 h4
          rw [osOf_two hrp hrc hpc kv (pi : Int) (fun l => insO l b ci)] at this
          exact this
end
end Go.Proofs.YtmnmaenmoaehlaaGreatDoor
