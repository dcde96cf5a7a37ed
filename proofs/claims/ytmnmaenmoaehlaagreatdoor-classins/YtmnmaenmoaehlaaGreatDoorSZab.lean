/-
   
-/
import Derived.Test.YtmnmaenmoaehlaaGreatDoorSZaa
import Derived.Shelf.Abstract
import Derived.Deep.RegionLaw
import Derived.Deep.AppendLies
namespace Go.Proofs.YtmnmaenmoaehlaaGreatDoor
open Go.RowKit

theorem enters65 : ∀ args w, (callFunc 65 args).run Tryz.prog w = .ok (.enter 65 args) w := enters_of Tryz.func65 (by kernel_rfl) rfl
theorem enters64 : ∀ args w, (callFunc 64 args).run Tryz.prog w = .ok (.enter 64 args) w := enters_of Tryz.func64 (by kernel_rfl) rfl

theorem hide {p : Prop} (h : p) : Hid p := h
theorem unhide {p : Prop} (h : Hid p) : p := h

theorem idxM_nonneg {p : AttrM → Bool} {l : List AttrM} : decide (0 ≤ idxM p l) = l.any p := by
  unfold idxM
  cases h : l.findIdx? p with
  | none =>
    have h' := h
    rw [List.findIdx?_eq_none_iff] at h'
    simp
    intro x hx; simpa using h' x hx
  | some i =>
    have h' := h
    rw [List.findIdx?_eq_some_iff_getElem] at h'
    obtain ⟨hi, hp, _⟩ := h'
    have : l.any p = true := List.any_eq_true.2 ⟨l[i], List.getElem_mem hi, hp⟩
    rw [this]; simp

theorem anyLongAttr_any (w : World) (a : Option Addr) (cap : Nat) (l : List AttrM) (hl : AttrsIn w a l) (hn : l.length ≤ maxLen) :
    Calls Tryz.prog 34 #[.slice a l.length cap] w fun e w' => e = .returned (.bool (l.any AttrM.long)) ∧ Below w.heap.size w w' := by
  have hc := indexFunc_any 65 #[] enters65 AttrM.long w (fun x w1 _ => isLongAttr_any x w1) a cap l hl hn
  have HC := hide hc
  rw [← idxM_nonneg]
  clear hc hl
  go_enter Tryz.func34, Tryz.ntmps34
  go_wp2_with (first | (go_at_call 88; refine (unhide HC).mono ?_; rintro e w' ⟨rfl, hb⟩) | go_in)
  go_ret
  exact ⟨rfl, hb⟩

/-- copy at elements of several cells, into a row of the call's own, as many elements as it has. -/
theorem wpList_copy_full {P : Program} {w : World} {ops : Array Oper} {rest : List Oper} {o : Oper} {a : Act} {Q : Exit → Act → World → Prop} (hgd : o.guard = none) (d s : Operand) (dT sT : TypeId)
    (ho : o.op = .call { callee := .builtin .copy, args := #[d, s], argTypes := #[dT, sT] }) (base elem size : Nat) (hu : P.underlying dT = some (.slice elem)) (hsz : (P.info? elem).map (·.size) = some size)
    (g n cap : Nat) (xs : List Value) (ad : Addr) (sCap : Nat) (hd : a.eval d = .slice (some ⟨g, 0, none⟩) n cap) (hs : a.eval s = .slice (some ad) n sCap)
    (hown : w.ownsRow base elem size (.slice (some ⟨g, 0, none⟩) n cap) n xs) (cs : List Value) (hn : cs.length = n * size)
    (hsrc : ∀ j v, cs[j]? = some v → w.cell? (ad.add j) = some v) (h1 : ∀ v ∈ cs, v.oneCell' = true)
    (h : ∀ w', w'.ownsRow base elem size (.slice (some ⟨g, 0, none⟩) n cap) n cs → w.grownBy w' (some g) → wpList P ops Q rest (a.put o.dst (goInt n)) w') : wpList P ops Q (o :: rest) a w := by
  refine wpList_plain hgd fun K hK => ?_
  rcases hown.2 with ⟨h', _⟩ | ⟨g', cap', cur, h', hb, hg, hnc, hcm, hcs, htake⟩
  · simp at h'
  simp only [Value.slice.injEq, Option.some.injEq, Addr.mk.injEq, and_true, true_and] at h'
  obtain ⟨rfl, rfl⟩ := h'
  cases hq : P.info? elem with
  | none => simp [hq] at hsz
  | some i =>
    have hi : i.size = size := by simpa [hq] using hsz
    have hle : n * size ≤ cap * size := Nat.mul_le_mul_right _ hnc
    have hf := run_firstCells_some (P := P) w size n ad n sCap cs hn hsrc
    have hst := run_storeCells_at P g 0 elem cs 0 cur w hg (by rw [hn, hcs]; simpa using hle) h1
    have hrun : (Builtin.copy_ #[dT, sT] o.type #[.slice (some ⟨g, 0, none⟩) n cap, .slice (some ad) n sCap]).run P w = .ok (goInt n) (w.setRow g (cs ++ cur.toList.drop cs.length).toArray) := by
      simp [Builtin.copy_, run_underlying hu, Builtin.lenOf, sizeOf, typeInfo, hq, hi, hf]
      simp at hst
      rw [hst]; simp
    have hfin := h (w.setRow g (cs ++ cur.toList.drop cs.length).toArray)
      ⟨hn, .inr ⟨g, cap, _, rfl, hb, setRow_heap w g cur _ elem _ hg, hnc, hcm, by simp [hn, hcs]; omega, by rw [← hn]; exact List.take_left⟩⟩
      ⟨rfl, rfl, rfl, by simp, fun k _ hk => setRow_other w g k _ (fun e => hk (by simp [e]))⟩
    unfold Oper.wp
    simp [execOp, ho, resolve, invoke, builtin, hd, hs, hrun, Result.andThen]
    exact hK _ _ hfin

theorem Tryz.info93 : (Tryz.prog.info? 93).map (fun i => (i.zero, i.size, i.bytes)) = some (some (.agg #[.int .i64 0, .string ⟨#[]⟩, .string ⟨#[]⟩, .string ⟨#[]⟩]), 4, 56) := by kernel_rfl
theorem Tryz.size93 : (Tryz.prog.info? 93).map (·.size) = some 4 := by kernel_rfl

theorem attrs_oneCell (l : List AttrM) : ∀ u ∈ attrRow l, u.oneCell' = true := by
  intro u hu
  simp only [attrRow, List.mem_flatMap] at hu
  obtain ⟨x, _, hx⟩ := hu
  simp [AttrM.cells] at hx
  rcases hx with rfl | rfl | rfl | rfl <;> rfl

theorem AttrsIn.row {w : World} {b off : Nat} {l : List AttrM} (h : AttrsIn w (some ⟨b, off, none⟩) l) : ∀ j v, (attrRow l)[j]? = some v → w.cell? ((⟨b, off, none⟩ : Addr).add j) = some v := by
  intro j v hv
  have hadd : (⟨b, off, none⟩ : Addr).add j = ⟨b, off + j, none⟩ := by unfold Addr.add; split <;> simp_all
  rw [hadd]
  have hlen : (attrRow l).length = l.length * 4 := flat_len AttrM.cells 4 attr_len l
  have hj : j < l.length * 4 := by have := (List.getElem?_eq_some_iff.1 hv).1; omega
  obtain ⟨i, r, rfl, hr⟩ : ∃ i r, j = i * 4 + r ∧ r < 4 := ⟨j / 4, j % 4, by omega, by omega⟩
  have hi : i < l.length := by omega
  have hx : l[i]? = some l[i] := List.getElem?_eq_getElem hi
  rw [attrRow, flat_get AttrM.cells 4 attr_len l i r hr, hx] at hv
  obtain ⟨b', off', e, c0, c1, c2, c3⟩ := h.cells i l[i] hx
  simp only [Option.some.injEq, Addr.mk.injEq, and_true] at e
  obtain ⟨rfl, rfl⟩ := e
  match r, hr with
  | 0, _ => simp [AttrM.cells] at hv; subst hv; simpa using c0
  | 1, _ => simp [AttrM.cells] at hv; subst hv; exact c1
  | 2, _ => simp [AttrM.cells] at hv; subst hv; exact c2
  | 3, _ => simp [AttrM.cells] at hv; subst hv; exact c3

theorem Addr.of_lt {w : World} {a : Option Addr} {l : List AttrM} (h : AttrsIn w a l) (hl : 0 < l.length) : ∃ b off, a = some ⟨b, off, none⟩ := by
  obtain ⟨b, off, e, _⟩ := h.cells 0 l[0] (List.getElem?_eq_getElem hl)
  exact ⟨b, off, e⟩

set_option maxHeartbeats 400000 in
/-- A list of its own: new memory, nil if it is empty. -/
theorem ownAttrs_any (w : World) (base : Nat) (hbase : base ≤ w.heap.size) (a : Option Addr) (cap : Nat) (l : List AttrM) (hl : AttrsIn w a l) (hn : l.length ≤ 1024) :
    Calls Tryz.prog 35 #[.slice a l.length cap] w fun e w' => ∃ ao cp, e = .returned (.slice ao l.length cp) ∧ w'.ownsRow base 93 4 (.slice ao l.length cp) l.length (attrRow l) ∧ Below w.heap.size w w' ∧ (∀ k, (Value.slice ao l.length cp).ownBlock = some k → w.heap.size ≤ k) := by
  by_cases h0 : l.length = 0
  · have hnil : l = [] := List.eq_nil_of_length_eq_zero h0
    subst hnil
    clear h0
    go_enter Tryz.func35, Tryz.ntmps35
    go_wp2
    go_ret
    exact ⟨none, 0, rfl, World.ownsRow_nil _ _ _ _, Below.refl _ _, fun k hk => by simp [Value.ownBlock] at hk⟩
  · obtain ⟨b, off, rfl⟩ := Addr.of_lt hl (by omega)
    have hrow := hl.row
    have hlen : (attrRow l).length = l.length * 4 := flat_len AttrM.cells 4 attr_len l
    obtain ⟨i0, hi, hz0, hz1, hz2⟩ := info_parts Tryz.info93
    have h0' : ((l.length : Int) == 0) = false := beq_eq_false_iff_ne.2 (by omega)
    have HR := hide hrow
    have HL := hide hlen
    clear hrow hlen hl
    go_enter Tryz.func35, Tryz.ntmps35
    go_wp2_with (first
      | (at_make; go_must (refine wpList_make_full _ rfl _ _ 22 rfl base 93 i0 _ 4 Tryz.underlying22 hi hz0 hz1 _ _ _ _ l.length rfl rfl rfl rfl (by rw [hz2]; omega) (by unfold maxLen; omega) hbase ?_); intro w1 hown1 hgrow1)
      | (refine wpList_copy_full rfl _ _ 22 22 rfl base 93 4 Tryz.underlying22 Tryz.size93 _ l.length l.length _ ⟨b, off, none⟩ cap rfl rfl hown1 (attrRow l) (unhide HL) (fun j v hv => (hgrow1.cell ((unhide HR) j v hv) (by simp))) (attrs_oneCell l) ?_; intro w2 hown2 hgrow2))
    go_ret
    refine ⟨_, _, rfl, hown2, ?_, fun k hk => by simp [Value.ownBlock] at hk; omega⟩
    exact ((Below.refl _ w).grown hgrow1 (Nat.le_refl _) (by simp)).grown hgrow2 hgrow1.size (fun k hk => by simp at hk; omega)
end Go.Proofs.YtmnmaenmoaehlaaGreatDoor

namespace Go.Proofs.YtmnmaenmoaehlaaGreatDoor
open Go.RowKit

/-- w' is w but for new blocks and for writes to the blocks of F. -/
structure Mod (F : Nat → Prop) (w w' : World) : Prop where
  os : w'.os = w.os
  tape : w'.tape = w.tape
  output : w'.output = w.output
  size : w.heap.size ≤ w'.heap.size
  block : ∀ k, k < w.heap.size → ¬ F k → w'.heap[k]? = w.heap[k]?

theorem Mod.refl (F : Nat → Prop) (w : World) : Mod F w w := ⟨rfl, rfl, rfl, Nat.le_refl _, fun _ _ _ => rfl⟩
theorem Mod.trans {F : Nat → Prop} {a b c : World} (h : Mod F a b) (k : Mod F b c) : Mod F a c :=
  ⟨k.os.trans h.os, k.tape.trans h.tape, k.output.trans h.output, Nat.le_trans h.size k.size, fun i hi hf => (k.block i (Nat.lt_of_lt_of_le hi h.size) hf).trans (h.block i hi hf)⟩
theorem Mod.mono {F G : Nat → Prop} {w w' : World} (h : Mod F w w') (hF : ∀ k, k < w.heap.size → F k → G k) : Mod G w w' := ⟨h.os, h.tape, h.output, h.size, fun k hk hg => h.block k hk (fun hf => hg (hF k hk hf))⟩
theorem Mod.of_below {F : Nat → Prop} {w w' : World} (h : Below w.heap.size w w') : Mod F w w' := ⟨h.os, h.tape, h.output, h.size, fun k hk _ => h.block k hk⟩
theorem Mod.below {F : Nat → Prop} {B : Nat} {w w' : World} (h : Mod F w w') (hB : B ≤ w.heap.size) (hF : ∀ k, F k → B ≤ k) : Below B w w' :=
  ⟨h.os, h.tape, h.output, h.size, fun k hk => h.block k (by omega) (fun hf => by have := hF k hf; omega)⟩
theorem Mod.setCell {F : Nat → Prop} (w : World) (a : Addr) (v : Value) (h : F a.block) : Mod F w (w.setCell a v) :=
  ⟨rfl, rfl, rfl, by simp [World.setCell], fun k _ hf => Below.heap_setCell _ _ _ _ (fun e => hf (e ▸ h))⟩
theorem Mod.grown {F : Nat → Prop} {w w' : World} {row : Option Nat} (h : w.grownBy w' row) (hr : ∀ k, row = some k → F k) : Mod F w w' :=
  ⟨h.os, h.tape, h.output, h.size, fun k hk hf => h.block k hk (fun e => hf (hr k e.symm))⟩
theorem Mod.alloc {F : Nat → Prop} (w : World) (o : Obj) : Mod F w (w.alloc o) := Mod.of_below ((Below.refl _ w).alloc (Nat.le_refl _) o)

theorem Ar.mod {w w' : World} {base bA bS g cap : Nat} {ns : List NodeM} {F : Nat → Prop} (h : Ar w base bA bS g cap ns) (hm : Mod F w w') (hF : ∀ k, foot bA bS g ns k → ¬ F k) : Ar w' base bA bS g cap ns :=
  h.same fun k hk => hm.block k (h.foot_lt hk).2 (hF k hk)

theorem Tryz.info51 : (Tryz.prog.info? 51).map (fun i => (i.zero, i.size, i.bytes)) = some (some (.agg #[.int .i64 0, .int .i64 0, .string ⟨#[]⟩, .slice none 0 0, .string ⟨#[]⟩, .string ⟨#[]⟩, .int .i64 0, .int .i64 0, .int .i64 0, .int .i64 0, .int .i64 0, .int .i64 0]), 12, 136) := by kernel_rfl

theorem ownsRow_kept {w w' : World} {base : Nat} {e : TypeId} {size : Nat} {v : Value} {n : Nat} {xs : List Value} (h : w.ownsRow base e size v n xs) (hk : ∀ k, v.ownBlock = some k → w'.heap[k]? = w.heap[k]?) : w'.ownsRow base e size v n xs := by
  refine ⟨h.1, ?_⟩
  rcases h.2 with hn | ⟨g', cap', cur, rfl, hbb, hgg, rest⟩
  · exact .inl hn
  · exact .inr ⟨g', cap', cur, rfl, hbb, by rw [hk g' rfl]; exact hgg, rest⟩

theorem ownsRow_oneCell {w : World} {base : Nat} {e : TypeId} {size : Nat} {v : Value} {n : Nat} {xs : List Value} (h : w.ownsRow base e size v n xs) : v.oneCell' = true := by
  rcases h.2 with ⟨rfl, _⟩ | ⟨g', cap', cur, rfl, _⟩ <;> rfl

theorem nodes_oneCell (l : List NodeM) (h : ∀ n ∈ l, n.av.oneCell' = true) : ∀ u ∈ nodeRow l, u.oneCell' = true := by
  intro u hu
  simp only [nodeRow, List.mem_flatMap] at hu
  obtain ⟨x, hxl, hx⟩ := hu
  simp [NodeM.cells] at hx
  have := h x hxl
  rcases hx with rfl | rfl | rfl | rfl | rfl | rfl | rfl | rfl | rfl | rfl | rfl | rfl <;> first | rfl | exact this

/-- What a new node must be: its attributes in a row of their own, no other node's. -/
structure News (w : World) (base : Nat) (ns news : List NodeM) : Prop where
  attrs : ∀ (i : Nat) n, news[i]? = some n → w.ownsRow base 93 4 n.av n.attrs.length (attrRow n.attrs)
  few : ∀ (i : Nat) n, news[i]? = some n → n.attrs.length ≤ 1024
  apart : ∀ (i j : Nat) n m, i ≠ j → (ns ++ news)[i]? = some n → (ns ++ news)[j]? = some m → n.av.ownBlock = none ∨ n.av.ownBlock ≠ m.av.ownBlock

theorem Ar.grow {w w1 : World} {base bA bS g cap g' cap' : Nat} {ns news : List NodeM} (h : Ar w base bA bS g cap ns) (hn : News w base ns news) (hlen : ns.length + news.length ≤ 32768)
    (hown : w1.ownsRow base 51 12 (.slice (some ⟨g', 0, none⟩) (ns.length + news.length) cap') (ns.length + news.length) (nodeRow ns ++ nodeRow news)) (hgrow : w.grownBy w1 (some g)) :
    Ar (w1.setCell ⟨bS, 0, none⟩ (.slice (some ⟨g', 0, none⟩) (ns.length + news.length) cap')) base bA bS g' cap' (ns ++ news) ∧
      Mod (fun k => k = bS ∨ k = g) w (w1.setCell ⟨bS, 0, none⟩ (.slice (some ⟨g', 0, none⟩) (ns.length + news.length) cap')) := by
  have b1 : ∀ k, k < w.heap.size → k ≠ g → w1.heap[k]? = w.heap[k]? := fun k hk hne => hgrow.block k hk (by simpa using hne)
  have hA1 := (b1 bA h.lt.1 h.neAg).trans h.arena
  have hS1 := (b1 bS h.lt.2.1 h.neSg).trans h.store
  have hgS : g' ≠ bS := by
    intro e; subst e
    obtain ⟨cur, hc⟩ := ownsRow_block hown (k := g') rfl
    rw [hc] at hS1; simp at hS1
  have b2 : ∀ k, k ≠ bS → (w1.setCell ⟨bS, 0, none⟩ (.slice (some ⟨g', 0, none⟩) (ns.length + news.length) cap')).heap[k]? = w1.heap[k]? := fun k hk => Below.heap_setCell _ _ _ _ hk
  have all : ∀ (i : Nat) n, (ns ++ news)[i]? = some n → w.ownsRow base 93 4 n.av n.attrs.length (attrRow n.attrs) ∧ n.attrs.length ≤ 1024 := by
    intro i n hi
    by_cases hl : i < ns.length
    · rw [List.getElem?_append_left hl] at hi; exact ⟨h.attrs i n hi, h.few i n hi⟩
    · rw [List.getElem?_append_right (by omega)] at hi; exact ⟨hn.attrs _ n hi, hn.few _ n hi⟩
  refine ⟨⟨by rw [b2 bA h.neAS]; exact hA1, ?_, ?_, h.lo1, h.lo2, by simp; have := h.pos; omega, by simpa using hlen, ?_, fun i n hi => (all i n hi).2, hn.apart⟩, ?_⟩
  · rw [List.length_append]; exact one_setCell hS1
  · rw [List.length_append]
    have : nodeRow (ns ++ news) = nodeRow ns ++ nodeRow news := by simp [nodeRow]
    rw [this]
    exact ownsRow_setCell_other hown (by simp [Value.ownBlock]; exact hgS) _
  · intro i n hi
    refine ownsRow_kept (all i n hi).1 (fun k hk => ?_)
    obtain ⟨cur, hc⟩ := ownsRow_block (all i n hi).1 hk
    have hklt := lt_of_block hc
    have hkS : k ≠ bS := by intro e; subst e; rw [h.store] at hc; simp at hc
    have hkg : k ≠ g := by intro e; subst e; obtain ⟨cu, hg⟩ := h.blockg; rw [hc] at hg; simp at hg
    rw [b2 k hkS, b1 k hklt hkg]
  · exact (Mod.grown hgrow (by simp)).trans (Mod.setCell _ _ _ (.inl rfl))

theorem add_full {w : World} {base bA bS g cap : Nat} {ns : List NodeM} (h : Ar w base bA bS g cap ns) (b c m : Nat) (hm2 : m ≤ 2) (hf : ¬ ns.length + m ≤ 32768) :
    Calls Tryz.prog 36 #[.pointer (some ⟨bA, 0, none⟩), .slice (some ⟨b, 0, none⟩) m c] w fun e w' => e = .returned (.tuple #[.int .i64 0, .int .i64 9]) ∧ w = w' := by
  have hA := h.cA
  have hS := h.cS
  have hm := h.most
  clear h
  have hneg : (32768 : Int) - m < ns.length := by omega
  go_enter Tryz.func36, Tryz.ntmps36
  go_wp2
  go_ret2
  exact ⟨rfl, rfl⟩

set_option maxRecDepth 100000 in
set_option maxHeartbeats 3200000 in
theorem add_fits {w : World} {base bA bS g cap : Nat} {ns : List NodeM} (h : Ar w base bA bS g cap ns) (news : List NodeM) (hn : News w base ns news) (hpos : 0 < news.length) (hf : ns.length + news.length ≤ 32768)
    (b c : Nat) (hb : w.heap[b]? = some (.cells (nodeRow news).toArray 51 (0, 0))) :
    Calls Tryz.prog 36 #[.pointer (some ⟨bA, 0, none⟩), .slice (some ⟨b, 0, none⟩) news.length c] w fun e w' =>
      e = .returned (.tuple #[.int .i64 ns.length, .int .i64 0]) ∧ ∃ g' cap', Ar w' base bA bS g' cap' (ns ++ news) ∧ Mod (fun k => k = bS ∨ k = g) w w' ∧ (g' = g ∨ g' = w.heap.size) := by
  have hA := h.cA
  have hS := h.cS
  have hm := h.most
  obtain ⟨i0, hi0, hz0, hz1, hz2⟩ := info_parts Tryz.info51
  have hlA := h.lt.1
  have hlS := h.lt.2.1
  have neA := h.neAg
  have neS := h.neSg
  have hfS := h.fS
  have hlen : (nodeRow news).length = news.length * 12 := flat_len NodeM.cells 12 node_len news
  have hnews := World.news_of_block hb
  have HN := hide hnews
  have HL := hide hlen
  have HO := hide (nodes_oneCell news (fun n hnn => by obtain ⟨i, hi⟩ := List.mem_iff_getElem?.1 hnn; exact ownsRow_oneCell (hn.attrs i n hi)))
  have HR := hide h.row
  have HB := hide (h.foot_lt (.inl rfl)).1
  have HH := hide h
  have HNW := hide hn
  clear hnews hlen h hn hb
  have hneg : ¬ (32768 : Int) - news.length < ns.length := by omega
  go_enter Tryz.func36, Tryz.ntmps36
  go_wp2_with fail
  go_region_law ((refine step_append_lies _ (by rfl) _ _ _ (by rfl) base 51 i0 _ 12 136 Tryz.underlying71 hi0 hz0 hz1 hz2 rfl (by omega) (.slice (some ⟨g, 0, none⟩) ns.length cap) ns.length (nodeRow ns) (by rfl) (by exact (unhide HR)) ⟨b, 0, none⟩ news.length c (nodeRow news) (by rfl) (by exact (unhide HL)) (by exact (unhide HN)) (by exact (unhide HO)) hpos (by unfold maxLen; omega) (by omega) (by exact Nat.le_trans (unhide HB) (by simp; omega)) w.heap.size (by simp) ?_; intro g' cap' w1 hown1 hgrow hat hlt; have hA1 : w1.cell? ⟨bA, 0, none⟩ = some (.pointer (some ⟨bS, 0, none⟩)) := ((hgrow.cell_far ⟨bA, 0, none⟩ (by simp; omega) (by simp [Value.ownBlock]; omega)).trans (by simpa using hA)); have hS1 : w1.cell? ⟨bS, 0, none⟩ = some (.slice (some ⟨g, 0, none⟩) ns.length cap) := ((hgrow.cell_far ⟨bS, 0, none⟩ (by simp; omega) (by simp [Value.ownBlock]; omega)).trans (by simpa using hS)); have hF1 : w1.frozen? ⟨bS, 0, none⟩ = false := ((hgrow.frozen_far ⟨bS, 0, none⟩ (by simp; omega) (by simp [Value.ownBlock]; omega)).trans (by simpa using hfS))))
  all_goals go_wp2
  all_goals go_ret2
  all_goals
    have R := (unhide HH).grow (unhide HNW) hf hown1 ⟨hgrow.os, hgrow.tape, hgrow.output, hgrow.size, hgrow.block⟩
    exact ⟨rfl, g', cap', R.1, R.2, hat.imp (fun e => (Option.some.inj e).symm) id⟩
end Go.Proofs.YtmnmaenmoaehlaaGreatDoor

namespace Go.Proofs.YtmnmaenmoaehlaaGreatDoor
open Go.RowKit

/-- An arena at bA with these nodes, in the blocks F. -/
def ArS (w : World) (base bA : Nat) (ns : List NodeM) (F : Nat → Prop) : Prop := ∃ bS g cap, Ar w base bA bS g cap ns ∧ ∀ k, F k ↔ foot bA bS g ns k

/-- Behind a call the arena has the nodes ns; only its own blocks were written. -/
def Upd (F : Nat → Prop) (w w' : World) (base bA : Nat) (ns : List NodeM) : Prop := ∃ F', ArS w' base bA ns F' ∧ Mod F w w' ∧ ∀ k, F' k → F k ∨ w.heap.size ≤ k

theorem ArS.lt {w : World} {base bA : Nat} {ns : List NodeM} {F : Nat → Prop} (h : ArS w base bA ns F) {k : Nat} (hk : F k) : base ≤ k ∧ k < w.heap.size := by
  obtain ⟨bS, g, cap, h, hF⟩ := h
  exact h.foot_lt ((hF k).1 hk)
theorem ArS.mod {w w' : World} {base bA : Nat} {ns : List NodeM} {F G : Nat → Prop} (h : ArS w base bA ns F) (hm : Mod G w w') (hG : ∀ k, F k → ¬ G k) : ArS w' base bA ns F := by
  obtain ⟨bS, g, cap, h, hF⟩ := h
  exact ⟨bS, g, cap, h.mod hm (fun k hk => hG k ((hF k).2 hk)), hF⟩
theorem ArS.below {w w' : World} {base bA : Nat} {ns : List NodeM} {F : Nat → Prop} (h : ArS w base bA ns F) (hb : Below w.heap.size w w') : ArS w' base bA ns F := by
  obtain ⟨bS, g, cap, h, hF⟩ := h
  exact ⟨bS, g, cap, h.below hb, hF⟩
theorem ArS.upd {w w' : World} {base bA : Nat} {ns : List NodeM} {F : Nat → Prop} (h : ArS w base bA ns F) (hb : Below w.heap.size w w') : Upd F w w' base bA ns :=
  ⟨F, h.below hb, Mod.of_below hb, fun _ hk => .inl hk⟩
theorem ArS.base_le {w : World} {base bA : Nat} {ns : List NodeM} {F : Nat → Prop} (h : ArS w base bA ns F) : base ≤ w.heap.size := by
  obtain ⟨bS, g, cap, h, _⟩ := h
  have := h.foot_lt (.inl rfl); omega
/-- Ahead of the call that changes it new blocks were made. -/
theorem Upd.after {F : Nat → Prop} {w w1 w2 : World} {base bA : Nat} {ns : List NodeM} (hb : Below w.heap.size w w1) (h : Upd F w1 w2 base bA ns) : Upd F w w2 base bA ns := by
  obtain ⟨F', h1, h2, h3⟩ := h
  exact ⟨F', h1, (Mod.of_below hb).trans h2, fun k hk => (h3 k hk).imp id (fun h => Nat.le_trans hb.size h)⟩
theorem Upd.then {F : Nat → Prop} {w w1 w2 : World} {base bA : Nat} {ns : List NodeM} (h : Upd F w w1 base bA ns) (hb : Below w1.heap.size w1 w2) : Upd F w w2 base bA ns := by
  obtain ⟨F', h1, h2, h3⟩ := h
  exact ⟨F', h1.below hb, h2.trans (Mod.of_below hb), h3⟩

theorem ar_new (w : World) (base : Nat) (hbase : base ≤ w.heap.size) :
    Ar (((w.alloc (.cells (nodeRow [blankM 0]).toArray 51)).alloc (.cells #[.slice (some ⟨w.heap.size, 0, none⟩) 1 1] 85)).alloc (.cells #[.pointer (some ⟨w.heap.size + 1, 0, none⟩)] 87))
      base (w.heap.size + 2) (w.heap.size + 1) w.heap.size 1 [blankM 0] := by
  have hg : (w.alloc (.cells (nodeRow [blankM 0]).toArray 51)).ownsRow base 51 12 (.slice (some ⟨w.heap.size, 0, none⟩) 1 1) 1 (nodeRow [blankM 0]) := by
    have := World.ownsRow_lit (base := base) (e := 51) (size := 12) w (nodeRow [blankM 0]).toArray 1 hbase (by simp [maxLen]) (by rfl)
    simpa using this
  refine ⟨?_, ?_, (hg.alloc _).alloc _, by omega, by omega, by simp, by simp, ?_, ?_, ?_⟩
  · have := heap_alloc_new ((w.alloc (.cells (nodeRow [blankM 0]).toArray 51)).alloc (.cells #[.slice (some ⟨w.heap.size, 0, none⟩) 1 1] 85)) (.cells #[.pointer (some ⟨w.heap.size + 1, 0, none⟩)] 87)
    simpa using this
  · rw [Below.heap_alloc _ _ _ (by simp)]
    have := heap_alloc_new (w.alloc (.cells (nodeRow [blankM 0]).toArray 51)) (.cells #[.slice (some ⟨w.heap.size, 0, none⟩) 1 1] 85)
    simpa using this
  · intro i n hi
    match i, hi with
    | 0, hi => simp at hi; subst hi; exact World.ownsRow_nil _ _ _ _
  · intro i n hi
    match i, hi with
    | 0, hi => simp at hi; subst hi; simp [blankM]
  · intro i j n m hij hi hj
    have h1 := (List.getElem?_eq_some_iff.1 hi).1
    have h2 := (List.getElem?_eq_some_iff.1 hj).1
    simp at h1 h2; omega

set_option maxHeartbeats 400000 in
theorem new_any (w : World) (base : Nat) (hbase : base ≤ w.heap.size) :
    Calls Tryz.prog 10 #[] w fun e w' => ∃ F, e = .returned (.pointer (some ⟨w.heap.size + 3, 0, none⟩)) ∧ ArS w' base (w.heap.size + 3) [blankM 0] F ∧ Below w.heap.size w w' ∧ ∀ k, F k → w.heap.size ≤ k := by
  go_enter Tryz.func10, Tryz.ntmps10
  go_wp2_with (go_at_call 31; refine (blank_any _).mono ?_; rintro e w' ⟨rfl, rfl⟩)
  go_ret
  have R := ar_new (w.alloc (.cells (nodeRow [blankM 0]).toArray 51)) base (by simp; omega)
  rw [World.size_alloc] at R
  refine ⟨_, rfl, ⟨_, _, _, R, fun k => Iff.rfl⟩, ?_, ?_⟩
  · exact (((((Below.refl _ w).alloc (Nat.le_refl _) _).alloc (by simp) _).alloc (by simp; omega) _).alloc (by simp; omega) _)
  · intro k hk
    rcases hk with rfl | rfl | rfl | ⟨n, hn, hk⟩
    · omega
    · omega
    · omega
    · simp at hn; subst hn; simp [blankM, Value.ownBlock] at hk
end Go.Proofs.YtmnmaenmoaehlaaGreatDoor
