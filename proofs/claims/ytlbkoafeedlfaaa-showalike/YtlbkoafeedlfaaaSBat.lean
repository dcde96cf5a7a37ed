/-
  The document's own arena: a child is put in, a child is taken out. The document's own arena: a child is put in.
-/
import Derived.Test.YtlbkoafeedlfaaaSBas
namespace Go.Proofs.Ytlbkoafeedlfaaa
open Go.RowKit

section
variable {w w' : World} {base bR g cap : Nat} {rs : List OneR}

/-- One node told anew: what becomes of the blocks. -/
theorem urf_set {w0 : World} {G : Nat → Prop} {i : Nat} {r r' : OneR} (hG : ∀ k, G k ↔ footR bR g rs k) (hi : rs[i]? = some r) (h : Rf w' base bR g cap (rs.set i r')) (hm : Mod (fun k => k = g) w0 w')
    (hr : ∀ k, (blk r'.av = some k ∨ blk r'.kv = some k) → (blk r.av = some k ∨ blk r.kv = some k) ∨ w0.heap.size ≤ k) : URf G w0 w' base bR (osOf (rs.set i r')) := by
  refine ⟨_, ⟨g, cap, _, h, rfl, fun k => Iff.rfl⟩, hm.mono (fun k _ hk => (hG k).2 (.inr (.inl hk))), fun k hk => ?_⟩
  rcases hk with hk | hk | ⟨x, hx, hk⟩
  · exact .inl ((hG k).2 (.inl hk))
  · exact .inl ((hG k).2 (.inr (.inl hk)))
  · rcases List.mem_or_eq_of_mem_set hx with hx | rfl
    · exact .inl ((hG k).2 (.inr (.inr ⟨x, hx, hk⟩)))
    · rcases hr k hk with e | e
      · exact .inl ((hG k).2 (.inr (.inr ⟨r, List.mem_of_getElem? hi, e⟩)))
      · exact .inr e

theorem osOf_set (rs : List OneR) (i : Nat) (r' : OneR) (f : OneM → OneM) {r : OneR} (hi : rs[i]? = some r) (hf : r'.o = f r.o) : osOf (rs.set i r') = (osOf rs).modify i f := by
  apply List.ext_getElem?
  intro j
  rw [List.getElem?_modify]
  simp only [osOf, List.getElem?_map]
  by_cases e : i = j
  · subst e
    rw [List.getElem?_set_self (List.getElem?_eq_some_iff.1 hi).1, hi]
    simp [hf]
  · rw [List.getElem?_set_ne e]
    cases rs[j]? <;> simp [e]

theorem refSetData_none (h : Rf w base bR g cap rs) (k : Int) (s : ByteArray) (hk : hasO (osOf rs) k = false) :
    Calls Try.prog 42 #[.pointer (some ⟨bR, 0, none⟩), .int .i64 k, .string s] w fun e w' => e = .returned (.int .i64 6) ∧ w = w' := by
  have HI := hide (refIs_any h k)
  rw [hk] at HI
  clear h hk
  go_enter Try.func42, Try.ntmps42
  go_wp2_with (go_at_call 79; refine (unhide HI).mono ?_; rintro e w' ⟨rfl, rfl⟩)
  go_ret
  exact ⟨rfl, rfl⟩

set_option maxHeartbeats 1000000 in
theorem refSetData_sim {os : List OneM} {G : Nat → Prop} (hS : RfS w base bR os G) (k : Int) (s : ByteArray) :
    Calls Try.prog 42 #[.pointer (some ⟨bR, 0, none⟩), .int .i64 k, .string s] w fun e w' => e = .returned (.int .i64 (setDataE os k s)) ∧ URf G w w' base bR (setDataR os k s) := by
  have hS0 := hS
  obtain ⟨g, cap, rs, h, rfl, hG⟩ := hS
  cases hh : hasO (osOf rs) k with
  | false =>
    have e6 : setDataE (osOf rs) k s = 6 := by rw [setDataE, if_pos hh]
    have er : setDataR (osOf rs) k s = osOf rs := by rw [setDataR, e6, if_neg (by decide)]
    rw [e6, er]
    exact (refSetData_none h k s hh).mono fun e w' ⟨h1, h2⟩ => ⟨h1, hS0.upd (h2 ▸ Below.refl _ _)⟩
  | true =>
    obtain ⟨i, o, rfl, ho⟩ := hasO_yes hh
    have hlt : i < rs.length := by rw [← osOf_len]; exact (List.getElem?_eq_some_iff.1 ho).1
    obtain ⟨r, hi⟩ : ∃ r, rs[i]? = some r := ⟨_, List.getElem?_eq_getElem hlt⟩
    have hro := osOf_get hi
    rw [ho] at hro
    cases hro
    have HI := hide (refIs_any h i)
    rw [hh] at HI
    have hA := h.cR
    have hlR := h.lt.1
    have hlg := h.lt.2
    have hn := h.most
    have c0 := (h.cells10 hi).1
    have HL := hide (refLong_any (w.alloc (.cells #[.string s] 9)) w.heap.size 1 [s] (one_cell_s w 9 s) (by simp))
    have e1 : [s].any longS = longS s := by simp
    rw [e1] at HL
    have L := h.lists hi
    obtain ⟨v4, d4⟩ := h.there hi 4 (by omega)
    have f4 := h.fg
    have H6 := hide ((h.setC (r' := { r with o := { r.o with data := s } }) hi 4 (by omega) (.string s) rfl ⟨L.attrs, L.kids, L.held⟩).alloc (.cells #[.string s] 9))
    have HG := hide hG
    have HIR := hide hi
    have HS := hide hS0
    have hE : setDataE (osOf rs) i s = if r.o.kind ≠ 2 ∧ r.o.kind ≠ 3 then 10 else if longS s then 2 else 0 := by rw [setDataE, if_neg (by rw [hh]; decide), kindO_of ho]
    clear h e1 L hS0 hG hi hh
    by_cases hk : r.o.kind ≠ 2 ∧ r.o.kind ≠ 3
    · rw [if_pos hk] at hE
      have er : setDataR (osOf rs) i s = osOf rs := by rw [setDataR, hE, if_neg (by decide)]
      rw [hE, er]
      have f1 : (r.o.kind != 2) = true := by simp [hk.1]
      have f2 : (r.o.kind != 3) = true := by simp [hk.2]
      clear hk hE er ho
      go_enter Try.func42, Try.ntmps42
      go_wp2_with (go_at_call 79; refine (unhide HI).mono ?_; rintro e w' ⟨rfl, rfl⟩)
      go_ret
      exact ⟨rfl, (unhide HS).upd (Below.refl _ _)⟩
    · rw [if_neg hk] at hE
      have hk' : r.o.kind = 2 ∨ r.o.kind = 3 := by omega
      clear hk
      cases hl : longS s with
      | true =>
        rw [hl, if_pos rfl] at hE
        have er : setDataR (osOf rs) i s = osOf rs := by rw [setDataR, hE, if_neg (by decide)]
        rw [hE, er]
        rw [hl] at HL
        clear hE er ho hl
        rcases hk' with hk' | hk'
        all_goals
          rw [hk'] at c0
          clear hk'
          go_enter Try.func42, Try.ntmps42
          go_wp2_with (first
            | (go_at_call 79; refine (unhide HI).mono ?_; rintro e w' ⟨rfl, rfl⟩)
            | (go_at_call 95; refine (unhide HL).mono ?_; rintro e w' ⟨rfl, rfl⟩))
          go_ret
          exact ⟨rfl, (unhide HS).upd ((Below.refl _ _).alloc (Nat.le_refl _) _)⟩
      | false =>
        rw [hl, if_neg (by decide)] at hE
        have er : setDataR (osOf rs) i s = osOf (rs.set i { r with o := { r.o with data := s } }) := by
          rw [setDataR, hE, if_pos rfl, Int.toNat_natCast, osOf_set rs i _ (fun o => { o with data := s }) (unhide HIR) rfl]
        rw [hE, er]
        rw [hl] at HL
        clear hE er ho hl
        rcases hk' with hk' | hk'
        all_goals
          rw [hk'] at c0
          clear hk'
          go_enter Try.func42, Try.ntmps42
          go_wp2_with (first
            | (go_at_call 79; refine (unhide HI).mono ?_; rintro e w' ⟨rfl, rfl⟩)
            | (go_at_call 95; refine (unhide HL).mono ?_; rintro e w' ⟨rfl, rfl⟩))
          go_ret
          exact ⟨rfl, urf_set (unhide HG) (unhide HIR) (unhide H6) ((Mod.setCell (F := fun k => k = g) w ⟨g, i * 10 + 4, none⟩ _ rfl).trans (Mod.alloc _ _)) (fun k e => .inl e)⟩
end
end Go.Proofs.Ytlbkoafeedlfaaa

namespace Go.Proofs.Ytlbkoafeedlfaaa
open Go.RowKit

section
variable {w w' : World} {base bR g cap : Nat} {rs : List OneR}

theorem one_news (w : World) (e : TypeId) (v : Value) : ∀ j u, [v][j]? = some u → (w.alloc (.cells #[v] e)).cell? ((⟨w.heap.size, 0, none⟩ : Addr).add j) = some u :=
  World.news_of_block (w := w.alloc (.cells #[v] e)) (B := w.heap.size) (t := e) (fr := (0, 0)) (heap_alloc_new w _)

def insF (b : Int) (c : Nat) (x : Nat) : List Nat := if (x : Int) = b then [c, x] else [x]
theorem insO_flat (l : List Nat) (b : Int) (c : Nat) : insO l b c = if b = -1 then l.flatMap (insF b c) ++ [c] else l.flatMap (insF b c) := by
  unfold insO
  by_cases h : b = -1
  · rw [if_pos h, if_pos h]
    have : l.flatMap (insF b c) = l := insO_none (fun x _ => by omega)
    rw [this]
  · rw [if_neg h, if_neg h]; rfl

theorem ownsRow_base {w : World} {base : Nat} {e : TypeId} {size : Nat} {v : Value} {n : Nat} {xs : List Value} (h : w.ownsRow base e size v n xs) {k : Nat} (hk : v.ownBlock = some k) : base ≤ k ∧ k < w.heap.size := by
  obtain ⟨cur, hc⟩ := ownsRow_block h hk
  refine ⟨?_, lt_of_block hc⟩
  rcases h.2 with ⟨h', _⟩ | ⟨g', cap', cur, h', hb, hg, _⟩
  · subst h'; simp [Value.ownBlock] at hk
  · subst h'; simp [Value.ownBlock] at hk; subst hk; first | exact hb | exact hb.1

theorem ownsRow_ints {w : World} {base : Nat} {v : Value} {l : List Nat} (h : w.ownsRow base 3 1 v l.length (intsV l)) : ∃ a c, v = .slice a l.length c ∧ IntsIn w a l ∧ ∀ k, blk v = some k → v.ownBlock = some k := by
  rcases h.2 with ⟨rfl, h0⟩ | ⟨g, cap, cur, rfl, _, hg, _⟩
  · have : l = [] := List.eq_nil_of_length_eq_zero h0
    subst this
    exact ⟨none, 0, rfl, ⟨fun i x hi => by simp at hi⟩, fun k hk => by simp [blk] at hk⟩
  · refine ⟨some ⟨g, 0, none⟩, cap, rfl, ⟨fun i x hi => ⟨g, 0, rfl, ?_⟩⟩, fun k hk => by simpa [blk, Value.ownBlock] using hk⟩
    have hlt : i < l.length := (List.getElem?_eq_some_iff.1 hi).1
    have := h.cellAt i (by omega)
    rw [Nat.zero_add, this]
    simp [intsV, hi]

/-- A list that is being made: its numbers lie in new memory. -/
structure Acc (w0 wx : World) (v : Value) (xs : List Nat) : Prop where
  own : wx.ownsRow w0.heap.size 3 1 v xs.length (intsV xs)
  below : Below w0.heap.size w0 wx

theorem Acc.nil (w0 wx : World) (hb : Below w0.heap.size w0 wx) : Acc w0 wx (.slice none 0 0) [] := ⟨World.ownsRow_nil _ _ _ _, hb⟩
theorem Acc.step {w0 wx w1 : World} {v : Value} {xs : List Nat} {y g1 c1 : Nat} (h : Acc w0 wx v xs) (o : Obj) (hown : w1.ownsRow w0.heap.size 3 1 (.slice (some ⟨g1, 0, none⟩) (xs.length + 1) c1) (xs.length + 1) (intsV xs ++ [.int .i64 (y : Int)])) (hgrow : (wx.alloc o).grownBy w1 v.ownBlock) :
    Acc w0 w1 (.slice (some ⟨g1, 0, none⟩) (xs.length + 1) c1) (xs ++ [y]) := by
  refine ⟨by simpa [intsV] using hown, (h.below.alloc (by exact h.below.size) o).grown hgrow (by have := h.below.size; simp; omega) (fun k hk => (ownsRow_base h.own hk).1)⟩
theorem Acc.drew {w0 wx : World} {v : Value} {xs : List Nat} (h : Acc w0 wx v xs) : Acc w0 wx.drew v xs := ⟨h.own.drew, h.below.drew⟩

theorem link_close {wx : World} {v : Value} {xs : List Nat} (h : Rf w base bR g cap rs) (hacc : Acc w wx v xs) {p c : Nat} {rp rc : OneR} (hp : rs[p]? = some rp) (hc : rs[c]? = some rc) (hpc : p ≠ c) (hlen : xs.length ≤ 32768) (x : Int) :
    ∃ kv, Rf ((wx.setCell ⟨g, p * 10 + 9, none⟩ v).setCell ⟨g, c * 10 + 8, none⟩ (.int .i64 x)) base bR g cap ((rs.set p { rp with o := { rp.o with kids := xs }, kv := kv }).set c { rc with o := { rc.o with up := x } }) ∧
      Mod (fun k => k = g) w ((wx.setCell ⟨g, p * 10 + 9, none⟩ v).setCell ⟨g, c * 10 + 8, none⟩ (.int .i64 x)) ∧ (∀ k, blk kv = some k → w.heap.size ≤ k) := by
  have hx := h.below hacc.below
  obtain ⟨a, cp, hv, hin, hbk⟩ := ownsRow_ints hacc.own
  have hnew : ∀ k, blk v = some k → w.heap.size ≤ k ∧ k < wx.heap.size := fun k hk => ownsRow_base hacc.own (hbk k hk)
  have Lp := hx.lists hp
  have hbase : base ≤ w.heap.size := Nat.le_trans h.base_g (Nat.le_of_lt h.lt.2)
  have h1 := hx.setC (r' := { rp with o := { rp.o with kids := xs }, kv := v }) hp 9 (by omega) v rfl ⟨Lp.attrs, ⟨a, cp, hv, hin, hlen⟩, fun k e => by
    rcases e with e | e
    · exact Lp.held k (.inl e)
    · obtain ⟨e1, e2⟩ := hnew k e
      have := h.lt
      exact ⟨by omega, e2, by omega, by omega⟩⟩
  have hc' : (rs.set p { rp with o := { rp.o with kids := xs }, kv := v })[c]? = some rc := by rw [List.getElem?_set_ne hpc]; exact hc
  have Lc := h1.lists hc'
  have h2 := h1.setC (r' := { rc with o := { rc.o with up := x } }) hc' 8 (by omega) (.int .i64 x) rfl ⟨Lc.attrs, Lc.kids, Lc.held⟩
  exact ⟨v, h2, ((Mod.of_below hacc.below).trans (Mod.setCell (F := fun k => k = g) wx ⟨g, p * 10 + 9, none⟩ v rfl)).trans (Mod.setCell (F := fun k => k = g) _ ⟨g, c * 10 + 8, none⟩ _ rfl), fun k hk => (hnew k hk).1⟩

set_option maxHeartbeats 4000000 in
theorem refLink_ok (h : Rf w base bR g cap rs) (p c : Nat) (rp rc : OneR) (hp : rs[p]? = some rp) (hc : rs[c]? = some rc) (hpc : p ≠ c) (b : Int) (hb : b = -1 ∨ hasO (osOf rs) b = true) (hends : ∀ i, i < (osOf rs).length → ∃ path, PathOf (upO (osOf rs)) i path)
    (hk : parentM rp.o.kind = true) (hk0 : rc.o.kind ≠ 0) (hk5 : rc.o.kind ≠ 5) (hup : rc.o.up = -1) (hab : aboveO (osOf rs) p c = false) (hbu : b = -1 ∨ upIO (osOf rs) b = p) (hsmall : rp.o.kids.length + 1 ≤ 32768) (hnd : rp.o.kids.Nodup) (hmem : b = -1 ∨ ∃ x ∈ rp.o.kids, b = (x : Int)) :
    Calls Try.prog 38 #[.pointer (some ⟨bR, 0, none⟩), .int .i64 p, .int .i64 c, .int .i64 b] w fun e w' => e = .returned (.int .i64 0) ∧
      ∃ kv, Rf w' base bR g cap ((rs.set p { rp with o := { rp.o with kids := insO rp.o.kids b c }, kv := kv }).set c { rc with o := { rc.o with up := (p : Int) } }) ∧ Mod (fun k => k = g) w w' ∧ (∀ k, blk kv = some k → w.heap.size ≤ k) := by
  have hlp : p < rs.length := (List.getElem?_eq_some_iff.1 hp).1
  have hlc : c < rs.length := (List.getElem?_eq_some_iff.1 hc).1
  have HI := hide (fun k => refIs_any h k)
  have HP := hide (refParent_any h p rp hp)
  rw [hk] at HP
  have HAB := hide (refAbove_any h hends p c)
  rw [hab] at HAB
  have i1 : hasO (osOf rs) p = true := hasO_of (osOf_get hp)
  have i2 : hasO (osOf rs) c = true := hasO_of (osOf_get hc)
  have hA := h.cR
  have hn := h.most
  have c0 := (h.cells10 hc).1
  have c8 := (h.cells10 hc).2.2.2.2.2.2.2.2.1
  rw [hup] at c8
  have c9 := (h.cells10 hp).2.2.2.2.2.2.2.2.2
  obtain ⟨a, cp, hkv, hin, hkl⟩ := h.kids p rp hp
  rw [hkv] at c9
  obtain ⟨i0, hi0, hz0, hz1, hz2⟩ := info_parts Try.info3
  generalize hks : rp.o.kids = ks at *
  have f0 : (rc.o.kind == 0) = false := beq_eq_false_iff_ne.2 hk0
  have f5 : (rc.o.kind == 5) = false := beq_eq_false_iff_ne.2 hk5
  have HIN := hide hin
  have HH := hide h
  have HPP := hide hp
  have HCC := hide hc
  clear hin
  have HND := hide hnd
  have HMEM := hide hmem
  clear hnd hmem
  rcases hb with rfl | hb
  · clear hbu
    go_enter Try.func38, Try.ntmps38
    go_wp2_with (first
      | (go_at_call 79; refine ((unhide HI) _).mono ?_; rintro e w' ⟨rfl, rfl⟩)
      | (go_at_call 93; refine (unhide HP).mono ?_; rintro e w' ⟨rfl, rfl⟩)
      | (go_at_call 94; refine (unhide HAB).mono ?_; rintro e w' ⟨rfl, rfl⟩))
    go_loopg [9, 11] ks.length (fun k s9 s11 wx => ∃ (j : Nat) (xs : List Nat), s11 = .int .i64 j ∧ j + k = ks.length ∧ xs = (ks.take j).flatMap (insF (-1) c) ∧ xs.length ≤ 2 * j ∧ Acc w wx s9 xs)
    case atStart => exact ⟨0, [], rfl, by omega, by simp, by simp, Acc.nil w w (Below.refl _ _)⟩
    case round =>
      obtain ⟨j, xs, rfl, hjk, hxs, hxl, hacc⟩ := hrel
      have HC := hide hacc
      have HXS := hide hxs
      clear hacc hxs
      by_cases hj : j < ks.length
      · have hx : ks[j]? = some ks[j] := List.getElem?_eq_getElem hj
        generalize ks[j] = y at hx
        obtain ⟨bb, off, rfl, hcw⟩ := (unhide HIN).cells j y hx
        have hblt : bb < w.heap.size := World.block_lt_of_cell? w _ hcw
        have hcj := ((unhide HC).below.cell (p := ⟨bb, off + j, none⟩) hblt).trans hcw
        have hjz : (j : Int) < (ks.length : Int) := by omega
        have htk : (ks.take (j + 1)).flatMap (insF (-1) c) = (ks.take j).flatMap (insF (-1) c) ++ insF (-1) c y := by
          rw [List.take_add_one, hx]; simp
        have HTK := hide htk
        have HX := hide hx
        clear htk hx
        have hyb : (y : Int) ≠ -1 := by omega
        have hne : ((y : Int) == -1) = false := beq_eq_false_iff_ne.2 hyb
        have hin1 : insF (-1) c y = [y] := by rw [insF, if_neg hyb]
        have HIN1 := hide hin1
        clear hin1
        go_wp2_with (first
          | (at_builtin; go_must (refine wpList_append_lies _ (by rfl) _ _ 41 (by rfl) w.heap.size 3 i0 _ 1 8 Try.underlying41 hi0 hz0 hz1 hz2 rfl (by omega) u9 xs.length (intsV xs) (by rfl) ((unhide HC).own.alloc _) ⟨wr.heap.size, 0, none⟩ 1 1 [.int .i64 (y : Int)] (by rfl) (by rfl) (one_news wr 3 _) (by simp [Value.oneCell']) (by omega) (by unfold maxLen; omega) (by omega) (by have := (unhide HC).below.size; simp; omega) _ rfl ?_); intro g1 c1 w1 hown1 hgrow1 hat1 hlt1; have HC1 := hide ((unhide HC).step (y := y) _ hown1 hgrow1); clear hown1 hgrow1 hat1 hlt1))
        go_roundg (gk - 1)
        case measure => omega
        case rel => exact ⟨j + 1, xs ++ [y], by go_num, by omega, by rw [unhide HTK, unhide HXS, unhide HIN1], by simp; omega, unhide HC1⟩
      · have hjz : ¬ (j : Int) < (ks.length : Int) := by omega
        obtain rfl : j = ks.length := by omega
        have hxs' : xs = ks.flatMap (insF (-1) c) := by rw [unhide HXS, List.take_length]
        have HXS' := hide hxs'
        clear hxs'
        have hfin : xs ++ [c] = insO ks (-1) c := by rw [insO_flat, if_pos rfl, unhide HXS']
        have hlen1 : (xs ++ [c]).length ≤ 32768 := by
          have : xs = ks := by rw [unhide HXS']; exact insO_none (fun x _ => by omega)
          rw [this]; simp; omega
        have HFIN := hide hfin
        have HLEN := hide hlen1
        clear hfin hlen1
        go_wp2_with (first
          | (at_builtin; go_must (refine wpList_append_lies _ (by rfl) _ _ 41 (by rfl) w.heap.size 3 i0 _ 1 8 Try.underlying41 hi0 hz0 hz1 hz2 rfl (by omega) u9 xs.length (intsV xs) (by rfl) ((unhide HC).own.alloc _) ⟨wr.heap.size, 0, none⟩ 1 1 [.int .i64 (c : Int)] (by rfl) (by rfl) (one_news wr 3 _) (by simp [Value.oneCell']) (by omega) (by unfold maxLen; omega) (by omega) (by have := (unhide HC).below.size; simp; omega) _ rfl ?_); intro g1 c1 w1 hown1 hgrow1 hat1 hlt1; have HC1 := hide ((unhide HC).step (y := c) _ hown1 hgrow1); clear hown1 hgrow1 hat1 hlt1; have har := (unhide HH).below (unhide HC1).below; have hA1 := har.cR; have fg1 := har.fg; have nR := har.neRg; obtain ⟨v9, d9⟩ := har.there (unhide HPP) 9 (by omega); obtain ⟨v8, d8⟩ := har.there (unhide HCC) 8 (by omega); clear har))
        go_ret
        refine ⟨rfl, ?_⟩
        rw [← unhide HFIN]
        exact link_close (unhide HH) (unhide HC1) (unhide HPP) (unhide HCC) hpc (unhide HLEN) p
  · have hb1 : ¬ b = -1 := by
      have := of_decide_eq_true hb
      omega
    obtain ⟨bi, ob, rfl, hob⟩ := hasO_yes hb
    have hbl : bi < rs.length := by rw [← osOf_len]; exact (List.getElem?_eq_some_iff.1 hob).1
    obtain ⟨rb, hrb⟩ : ∃ r, rs[bi]? = some r := ⟨_, List.getElem?_eq_getElem hbl⟩
    have hro := osOf_get hrb
    rw [hob] at hro
    cases hro
    have hbu' : rb.o.up = (p : Int) := by
      rcases hbu with e | e
      · exact absurd e hb1
      · rw [upIO_of hob] at e; exact e
    have c8b := (h.cells10 hrb).2.2.2.2.2.2.2.2.1
    rw [hbu'] at c8b
    have hbn : ((bi : Int) != -1) = true := by rw [bne_iff_ne]; exact hb1
    have hpp : ((p : Int) != (p : Int)) = false := by simp
    have hbe : ((bi : Int) == -1) = false := beq_eq_false_iff_ne.2 hb1
    clear hbu hbu' hob hrb
    go_enter Try.func38, Try.ntmps38
    go_wp2_with (first
      | (go_at_call 79; refine ((unhide HI) _).mono ?_; rintro e w' ⟨rfl, rfl⟩)
      | (go_at_call 93; refine (unhide HP).mono ?_; rintro e w' ⟨rfl, rfl⟩)
      | (go_at_call 94; refine (unhide HAB).mono ?_; rintro e w' ⟨rfl, rfl⟩))
    go_loopg [9, 11] ks.length (fun k s9 s11 wx => ∃ (j : Nat) (xs : List Nat), s11 = .int .i64 j ∧ j + k = ks.length ∧ xs = (ks.take j).flatMap (insF bi c) ∧ xs.length ≤ 2 * j ∧ Acc w wx s9 xs)
    case atStart => exact ⟨0, [], rfl, by omega, by simp, by simp, Acc.nil w w (Below.refl _ _)⟩
    case round =>
      obtain ⟨j, xs, rfl, hjk, hxs, hxl, hacc⟩ := hrel
      have HC := hide hacc
      have HXS := hide hxs
      clear hacc hxs
      by_cases hj : j < ks.length
      · have hx : ks[j]? = some ks[j] := List.getElem?_eq_getElem hj
        generalize ks[j] = y at hx
        obtain ⟨bb, off, rfl, hcw⟩ := (unhide HIN).cells j y hx
        have hblt : bb < w.heap.size := World.block_lt_of_cell? w _ hcw
        have hcj := ((unhide HC).below.cell (p := ⟨bb, off + j, none⟩) hblt).trans hcw
        have hjz : (j : Int) < (ks.length : Int) := by omega
        have htk : (ks.take (j + 1)).flatMap (insF bi c) = (ks.take j).flatMap (insF bi c) ++ insF bi c y := by
          rw [List.take_add_one, hx]; simp
        have HTK := hide htk
        have HX := hide hx
        clear htk hx
        by_cases hyb : (y : Int) = bi
        · obtain rfl : y = bi := by omega
          have heq : ((y : Int) == (y : Int)) = true := by simp
          have hin1 : insF y c y = [c, y] := by rw [insF, if_pos rfl]
          clear hyb
          have HIN1 := hide hin1
          clear hin1
          set_option maxRecDepth 10000 in
          go_wp2_with (first
            | (at_builtin; go_must (refine wpList_append_lies _ (by rfl) _ _ 41 (by rfl) w.heap.size 3 i0 _ 1 8 Try.underlying41 hi0 hz0 hz1 hz2 rfl (by omega) _ _ _ (by rfl) (by first | exact (unhide HC1).own.alloc _ | exact (unhide HC).own.alloc _) ⟨_, 0, none⟩ 1 1 [_] (by rfl) (by rfl) (one_news _ 3 _) (by simp [Value.oneCell']) (by omega) (by unfold maxLen; first | omega | (simp; omega)) (by first | omega | (simp; omega)) (by have := (unhide HC).below.size; first | (have h9 := (unhide HC1).below.size; simp; omega) | (simp; omega)) _ rfl ?_); intro g1 c1 w1 hown1 hgrow1 hat1 hlt1; first | (have HC2 := hide ((unhide HC1).step (y := y) _ hown1 hgrow1)) | (have HC1 := hide ((unhide HC).step (y := c) _ hown1 hgrow1); have hcj1 := (((unhide HC1).below.cell (p := ⟨bb, off + j, none⟩) hblt).trans hcw)); clear hown1 hgrow1 hat1 hlt1))
          go_roundg (gk - 1)
          case measure => omega
          case rel => exact ⟨j + 1, xs ++ [c] ++ [y], by go_num, by omega, by rw [unhide HTK, unhide HXS, unhide HIN1]; simp, by simp; omega, by have := unhide HC2; rw [List.length_append] at this; exact this⟩
        · have hne : ((y : Int) == bi) = false := beq_eq_false_iff_ne.2 hyb
          have hin1 : insF bi c y = [y] := by rw [insF, if_neg hyb]
          have HIN1 := hide hin1
          clear hin1
          go_wp2_with (first
            | (at_builtin; go_must (refine wpList_append_lies _ (by rfl) _ _ 41 (by rfl) w.heap.size 3 i0 _ 1 8 Try.underlying41 hi0 hz0 hz1 hz2 rfl (by omega) u9 xs.length (intsV xs) (by rfl) ((unhide HC).own.alloc _) ⟨wr.heap.size, 0, none⟩ 1 1 [.int .i64 (y : Int)] (by rfl) (by rfl) (one_news wr 3 _) (by simp [Value.oneCell']) (by omega) (by unfold maxLen; omega) (by omega) (by have := (unhide HC).below.size; simp; omega) _ rfl ?_); intro g1 c1 w1 hown1 hgrow1 hat1 hlt1; have HC1 := hide ((unhide HC).step (y := y) _ hown1 hgrow1); clear hown1 hgrow1 hat1 hlt1))
          go_roundg (gk - 1)
          case measure => omega
          case rel => exact ⟨j + 1, xs ++ [y], by go_num, by omega, by rw [unhide HTK, unhide HXS, unhide HIN1], by simp; omega, unhide HC1⟩
      · have hjz : ¬ (j : Int) < (ks.length : Int) := by omega
        obtain rfl : j = ks.length := by omega
        have hxs' : xs = ks.flatMap (insF bi c) := by rw [unhide HXS, List.take_length]
        have HXS' := hide hxs'
        clear hxs'
        have hfin : xs = insO ks bi c := by rw [insO_flat, if_neg hb1, unhide HXS']
        have hlen1 : xs.length ≤ 32768 := by
          rw [hfin]
          obtain ⟨A, B, h1, h2, _⟩ := insO_cut (unhide HND) (unhide HMEM) c
          rw [h2]
          rw [h1] at hsmall
          simp at hsmall ⊢
          omega
        obtain ⟨a9, k9, e9, _⟩ := ownsRow_ints (unhide HC).own
        subst e9
        have HFIN := hide hfin
        have HLEN := hide hlen1
        have har := (unhide HH).below (unhide HC).below
        have hA1 := har.cR
        have fg1 := har.fg
        have nR := har.neRg
        obtain ⟨v9, d9⟩ := har.there (unhide HPP) 9 (by omega)
        obtain ⟨v8, d8⟩ := har.there (unhide HCC) 8 (by omega)
        clear hfin hlen1 har
        set_option maxRecDepth 10000 in
        go_wp2
        go_ret
        refine ⟨rfl, ?_⟩
        rw [← unhide HFIN]
        exact link_close (unhide HH) (unhide HC) (unhide HPP) (unhide HCC) hpc (unhide HLEN) p
end
end Go.Proofs.Ytlbkoafeedlfaaa
