/-
   
-/
import Derived.Test.YtkakncngkmoegaaGreatSZaa
import Derived.Deep.RegionLaw
import Derived.Deep.AppendLies
import Derived.Deep.RegionWith
namespace Go.Proofs.YtkakncngkmoegaaGreat
open Go.RowKit

/-- w' is w but for new blocks and for writes to the blocks of F. -/
structure Mod (F : Nat → Prop) (w w' : World) : Prop where
  os : w'.os = w.os
  tape : w'.tape = w.tape
  output : w'.output = w.output
  size : w.heap.size ≤ w'.heap.size
  block : ∀ k, k < w.heap.size → ¬ F k → w'.heap[k]? = w.heap[k]?

theorem Mod.refl (F : Nat → Prop) (w : World) : Mod F w w := ⟨rfl, rfl, rfl, Nat.le_refl _, fun _ _ _ => rfl⟩
theorem Mod.trans {F : Nat → Prop} {a b c : World} (h : Mod F a b) (k : Mod F b c) : Mod F a c :=
  ⟨k.os.trans h.os, k.tape.trans h.tape, k.output.trans h.output, Nat.le_trans h.size k.size, fun i hi hf => (k.block i (Nat.lt_of_lt_of_le hi h.size) hf).trans (h.block i hi hf)⟩
theorem Mod.mono {F G : Nat → Prop} {w w' : World} (h : Mod F w w') (hF : ∀ k, k < w.heap.size → F k → G k) : Mod G w w' := ⟨h.os, h.tape, h.output, h.size, fun k hk hg => h.block k hk (fun hf => hg (hF k hk hf))⟩
theorem Mod.of_below {F : Nat → Prop} {w w' : World} (h : Below w.heap.size w w') : Mod F w w' := ⟨h.os, h.tape, h.output, h.size, fun k hk _ => h.block k hk⟩
theorem Mod.below {F : Nat → Prop} {B : Nat} {w w' : World} (h : Mod F w w') (hB : B ≤ w.heap.size) (hF : ∀ k, F k → B ≤ k) : Below B w w' :=
  ⟨h.os, h.tape, h.output, h.size, fun k hk => h.block k (by omega) (fun hf => by have := hF k hf; omega)⟩
theorem Mod.setCell {F : Nat → Prop} (w : World) (a : Addr) (v : Value) (h : F a.block) : Mod F w (w.setCell a v) :=
  ⟨rfl, rfl, rfl, by simp [World.setCell], fun k _ hf => Below.heap_setCell _ _ _ _ (fun e => hf (e ▸ h))⟩
theorem Mod.grown {F : Nat → Prop} {w w' : World} {row : Option Nat} (h : w.grownBy w' row) (hr : ∀ k, row = some k → F k) : Mod F w w' :=
  ⟨h.os, h.tape, h.output, h.size, fun k hk hf => h.block k hk (fun e => hf (hr k e.symm))⟩
theorem Mod.alloc {F : Nat → Prop} (w : World) (o : Obj) : Mod F w (w.alloc o) := Mod.of_below ((Below.refl _ w).alloc (Nat.le_refl _) o)

theorem Ar.mod {w w' : World} {base bA bS g cap : Nat} {ns : List NodeM} {F : Nat → Prop} (h : Ar w base bA bS g cap ns) (hm : Mod F w w') (hF : ∀ k, foot bA bS g ns k → ¬ F k) : Ar w' base bA bS g cap ns :=
  h.same fun k hk => hm.block k (h.foot_lt hk).2 (hF k hk)

theorem Tryz.info47 : (Tryz.prog.info? 47).map (fun i => (i.zero, i.size, i.bytes)) = some (some (.agg #[.int .i64 0, .int .i64 0, .string ⟨#[]⟩, .slice none 0 0, .string ⟨#[]⟩, .string ⟨#[]⟩, .int .i64 0, .int .i64 0, .int .i64 0, .int .i64 0, .int .i64 0, .int .i64 0]), 12, 136) := by kernel_rfl

theorem ownsRow_kept {w w' : World} {base : Nat} {e : TypeId} {size : Nat} {v : Value} {n : Nat} {xs : List Value} (h : w.ownsRow base e size v n xs) (hk : ∀ k, v.ownBlock = some k → w'.heap[k]? = w.heap[k]?) : w'.ownsRow base e size v n xs := by
  refine ⟨h.1, ?_⟩
  rcases h.2 with hn | ⟨g', cap', cur, rfl, hbb, hgg, rest⟩
  · exact .inl hn
  · exact .inr ⟨g', cap', cur, rfl, hbb, by rw [hk g' rfl]; exact hgg, rest⟩

theorem ownsRow_oneCell {w : World} {base : Nat} {e : TypeId} {size : Nat} {v : Value} {n : Nat} {xs : List Value} (h : w.ownsRow base e size v n xs) : v.oneCell' = true := by
  rcases h.2 with ⟨rfl, _⟩ | ⟨g', cap', cur, rfl, _⟩ <;> rfl

theorem nodes_oneCell (l : List NodeM) (h : ∀ n ∈ l, n.av.oneCell' = true) : ∀ u ∈ nodeRow l, u.oneCell' = true := by
  intro u hu
  simp only [nodeRow, List.mem_flatMap] at hu
  obtain ⟨x, hxl, hx⟩ := hu
  simp [NodeM.cells] at hx
  have := h x hxl
  rcases hx with rfl | rfl | rfl | rfl | rfl | rfl | rfl | rfl | rfl | rfl | rfl | rfl <;> first | rfl | exact this

/-- What a new node must be: its attributes in a row of their own, no other node's. -/
structure News (w : World) (base : Nat) (ns news : List NodeM) : Prop where
  attrs : ∀ (i : Nat) n, news[i]? = some n → w.ownsRow base 148 4 n.av n.attrs.length (attrRow n.attrs)
  few : ∀ (i : Nat) n, news[i]? = some n → n.attrs.length ≤ 1024
  apart : ∀ (i j : Nat) n m, i ≠ j → (ns ++ news)[i]? = some n → (ns ++ news)[j]? = some m → n.av.ownBlock = none ∨ n.av.ownBlock ≠ m.av.ownBlock

theorem Ar.grow {w w1 : World} {base bA bS g cap g' cap' : Nat} {ns news : List NodeM} (h : Ar w base bA bS g cap ns) (hn : News w base ns news) (hlen : ns.length + news.length ≤ 32768)
    (hown : w1.ownsRow base 47 12 (.slice (some ⟨g', 0, none⟩) (ns.length + news.length) cap') (ns.length + news.length) (nodeRow ns ++ nodeRow news)) (hgrow : w.grownBy w1 (some g)) :
    Ar (w1.setCell ⟨bS, 0, none⟩ (.slice (some ⟨g', 0, none⟩) (ns.length + news.length) cap')) base bA bS g' cap' (ns ++ news) ∧
      Mod (fun k => k = bS ∨ k = g) w (w1.setCell ⟨bS, 0, none⟩ (.slice (some ⟨g', 0, none⟩) (ns.length + news.length) cap')) := by
  have b1 : ∀ k, k < w.heap.size → k ≠ g → w1.heap[k]? = w.heap[k]? := fun k hk hne => hgrow.block k hk (by simpa using hne)
  have hA1 := (b1 bA h.lt.1 h.neAg).trans h.arena
  have hS1 := (b1 bS h.lt.2.1 h.neSg).trans h.store
  have hgS : g' ≠ bS := by
    intro e; subst e
    obtain ⟨cur, hc⟩ := ownsRow_block hown (k := g') rfl
    rw [hc] at hS1; simp at hS1
  have b2 : ∀ k, k ≠ bS → (w1.setCell ⟨bS, 0, none⟩ (.slice (some ⟨g', 0, none⟩) (ns.length + news.length) cap')).heap[k]? = w1.heap[k]? := fun k hk => Below.heap_setCell _ _ _ _ hk
  have all : ∀ (i : Nat) n, (ns ++ news)[i]? = some n → w.ownsRow base 148 4 n.av n.attrs.length (attrRow n.attrs) ∧ n.attrs.length ≤ 1024 := by
    intro i n hi
    by_cases hl : i < ns.length
    · rw [List.getElem?_append_left hl] at hi; exact ⟨h.attrs i n hi, h.few i n hi⟩
    · rw [List.getElem?_append_right (by omega)] at hi; exact ⟨hn.attrs _ n hi, hn.few _ n hi⟩
  refine ⟨⟨by rw [b2 bA h.neAS]; exact hA1, ?_, ?_, h.lo1, h.lo2, by simp; have := h.pos; omega, by simpa using hlen, ?_, fun i n hi => (all i n hi).2, hn.apart⟩, ?_⟩
  · rw [List.length_append]; exact one_setCell hS1
  · rw [List.length_append]
    have : nodeRow (ns ++ news) = nodeRow ns ++ nodeRow news := by simp [nodeRow]
    rw [this]
    exact ownsRow_setCell_other hown (by simp [Value.ownBlock]; exact hgS) _
  · intro i n hi
    refine ownsRow_kept (all i n hi).1 (fun k hk => ?_)
    obtain ⟨cur, hc⟩ := ownsRow_block (all i n hi).1 hk
    have hklt := lt_of_block hc
    have hkS : k ≠ bS := by intro e; subst e; rw [h.store] at hc; simp at hc
    have hkg : k ≠ g := by intro e; subst e; obtain ⟨cu, hg⟩ := h.blockg; rw [hc] at hg; simp at hg
    rw [b2 k hkS, b1 k hklt hkg]
  · exact (Mod.grown hgrow (by simp)).trans (Mod.setCell _ _ _ (.inl rfl))

theorem add_full {w : World} {base bA bS g cap : Nat} {ns : List NodeM} (h : Ar w base bA bS g cap ns) (b c m : Nat) (hm2 : m ≤ 2) (hf : ¬ ns.length + m ≤ 32768) :
    Calls Tryz.prog 60 #[.pointer (some ⟨bA, 0, none⟩), .slice (some ⟨b, 0, none⟩) m c] w fun e w' => e = .returned (.tuple #[.int .i64 0, .int .i64 9]) ∧ w = w' := by
  have hA := h.cA
  have hS := h.cS
  have hm := h.most
  clear h
  have hneg : (32768 : Int) - m < ns.length := by omega
  go_enter Tryz.func60, Tryz.ntmps60
  go_wp2
  go_ret2
  exact ⟨rfl, rfl⟩

set_option maxRecDepth 100000 in
set_option maxHeartbeats 3200000 in
theorem add_fits {w : World} {base bA bS g cap : Nat} {ns : List NodeM} (h : Ar w base bA bS g cap ns) (news : List NodeM) (hn : News w base ns news) (hpos : 0 < news.length) (hf : ns.length + news.length ≤ 32768)
    (b c : Nat) (hb : w.heap[b]? = some (.cells (nodeRow news).toArray 47 (0, 0))) :
    Calls Tryz.prog 60 #[.pointer (some ⟨bA, 0, none⟩), .slice (some ⟨b, 0, none⟩) news.length c] w fun e w' =>
      e = .returned (.tuple #[.int .i64 ns.length, .int .i64 0]) ∧ ∃ g' cap', Ar w' base bA bS g' cap' (ns ++ news) ∧ Mod (fun k => k = bS ∨ k = g) w w' ∧ (g' = g ∨ g' = w.heap.size) := by
  have hA := h.cA
  have hS := h.cS
  have hm := h.most
  obtain ⟨i0, hi0, hz0, hz1, hz2⟩ := info_parts Tryz.info47
  have hlA := h.lt.1
  have hlS := h.lt.2.1
  have neA := h.neAg
  have neS := h.neSg
  have hfS := h.fS
  have hlen : (nodeRow news).length = news.length * 12 := flat_len NodeM.cells 12 node_len news
  have hnews := World.news_of_block hb
  have HN := hide hnews
  have HL := hide hlen
  have HO := hide (nodes_oneCell news (fun n hnn => by obtain ⟨i, hi⟩ := List.mem_iff_getElem?.1 hnn; exact ownsRow_oneCell (hn.attrs i n hi)))
  have HR := hide h.row
  have HB := hide (h.foot_lt (.inl rfl)).1
  have HH := hide h
  have HNW := hide hn
  clear hnews hlen h hn hb
  have hneg : ¬ (32768 : Int) - news.length < ns.length := by omega
  go_enter Tryz.func60, Tryz.ntmps60
  go_wp2_with fail
  go_region_law ((refine step_append_lies _ (by rfl) _ _ _ (by rfl) base 47 i0 _ 12 136 Tryz.underlying105 hi0 hz0 hz1 hz2 rfl (by omega) (.slice (some ⟨g, 0, none⟩) ns.length cap) ns.length (nodeRow ns) (by rfl) (by exact (unhide HR)) ⟨b, 0, none⟩ news.length c (nodeRow news) (by rfl) (by exact (unhide HL)) (by exact (unhide HN)) (by exact (unhide HO)) hpos (by unfold maxLen; omega) (by omega) (by exact Nat.le_trans (unhide HB) (by simp; omega)) w.heap.size (by simp) ?_; intro g' cap' w1 hown1 hgrow hat hlt; have hA1 : w1.cell? ⟨bA, 0, none⟩ = some (.pointer (some ⟨bS, 0, none⟩)) := ((hgrow.cell_far ⟨bA, 0, none⟩ (by simp; omega) (by simp [Value.ownBlock]; omega)).trans (by simpa using hA)); have hS1 : w1.cell? ⟨bS, 0, none⟩ = some (.slice (some ⟨g, 0, none⟩) ns.length cap) := ((hgrow.cell_far ⟨bS, 0, none⟩ (by simp; omega) (by simp [Value.ownBlock]; omega)).trans (by simpa using hS)); have hF1 : w1.frozen? ⟨bS, 0, none⟩ = false := ((hgrow.frozen_far ⟨bS, 0, none⟩ (by simp; omega) (by simp [Value.ownBlock]; omega)).trans (by simpa using hfS))))
  all_goals go_wp2
  all_goals go_ret2
  all_goals
    have R := (unhide HH).grow (unhide HNW) hf hown1 ⟨hgrow.os, hgrow.tape, hgrow.output, hgrow.size, hgrow.block⟩
    exact ⟨rfl, g', cap', R.1, R.2, hat.imp (fun e => (Option.some.inj e).symm) id⟩
end Go.Proofs.YtkakncngkmoegaaGreat

namespace Go.Proofs.YtkakncngkmoegaaGreat
open Go.RowKit

/-- An arena at bA with these nodes, in the blocks F. -/
def ArS (w : World) (base bA : Nat) (ns : List NodeM) (F : Nat → Prop) : Prop := ∃ bS g cap, Ar w base bA bS g cap ns ∧ ∀ k, F k ↔ foot bA bS g ns k

/-- Behind a call the arena has the nodes ns; only its own blocks were written. -/
def Upd (F : Nat → Prop) (w w' : World) (base bA : Nat) (ns : List NodeM) : Prop := ∃ F', ArS w' base bA ns F' ∧ Mod F w w' ∧ ∀ k, F' k → F k ∨ w.heap.size ≤ k

theorem ArS.lt {w : World} {base bA : Nat} {ns : List NodeM} {F : Nat → Prop} (h : ArS w base bA ns F) {k : Nat} (hk : F k) : base ≤ k ∧ k < w.heap.size := by
  obtain ⟨bS, g, cap, h, hF⟩ := h
  exact h.foot_lt ((hF k).1 hk)
theorem ArS.mod {w w' : World} {base bA : Nat} {ns : List NodeM} {F G : Nat → Prop} (h : ArS w base bA ns F) (hm : Mod G w w') (hG : ∀ k, F k → ¬ G k) : ArS w' base bA ns F := by
  obtain ⟨bS, g, cap, h, hF⟩ := h
  exact ⟨bS, g, cap, h.mod hm (fun k hk => hG k ((hF k).2 hk)), hF⟩
theorem ArS.below {w w' : World} {base bA : Nat} {ns : List NodeM} {F : Nat → Prop} (h : ArS w base bA ns F) (hb : Below w.heap.size w w') : ArS w' base bA ns F := by
  obtain ⟨bS, g, cap, h, hF⟩ := h
  exact ⟨bS, g, cap, h.below hb, hF⟩
theorem ArS.upd {w w' : World} {base bA : Nat} {ns : List NodeM} {F : Nat → Prop} (h : ArS w base bA ns F) (hb : Below w.heap.size w w') : Upd F w w' base bA ns :=
  ⟨F, h.below hb, Mod.of_below hb, fun _ hk => .inl hk⟩
theorem ArS.base_le {w : World} {base bA : Nat} {ns : List NodeM} {F : Nat → Prop} (h : ArS w base bA ns F) : base ≤ w.heap.size := by
  obtain ⟨bS, g, cap, h, _⟩ := h
  have := h.foot_lt (.inl rfl); omega
/-- Ahead of the call that changes it new blocks were made. -/
theorem Upd.after {F : Nat → Prop} {w w1 w2 : World} {base bA : Nat} {ns : List NodeM} (hb : Below w.heap.size w w1) (h : Upd F w1 w2 base bA ns) : Upd F w w2 base bA ns := by
  obtain ⟨F', h1, h2, h3⟩ := h
  exact ⟨F', h1, (Mod.of_below hb).trans h2, fun k hk => (h3 k hk).imp id (fun h => Nat.le_trans hb.size h)⟩
theorem Upd.then {F : Nat → Prop} {w w1 w2 : World} {base bA : Nat} {ns : List NodeM} (h : Upd F w w1 base bA ns) (hb : Below w1.heap.size w1 w2) : Upd F w w2 base bA ns := by
  obtain ⟨F', h1, h2, h3⟩ := h
  exact ⟨F', h1.below hb, h2.trans (Mod.of_below hb), h3⟩

theorem ar_new (w : World) (base : Nat) (hbase : base ≤ w.heap.size) :
    Ar (((w.alloc (.cells (nodeRow [blankM 0]).toArray 47)).alloc (.cells #[.slice (some ⟨w.heap.size, 0, none⟩) 1 1] 107)).alloc (.cells #[.pointer (some ⟨w.heap.size + 1, 0, none⟩)] 110))
      base (w.heap.size + 2) (w.heap.size + 1) w.heap.size 1 [blankM 0] := by
  have hg : (w.alloc (.cells (nodeRow [blankM 0]).toArray 47)).ownsRow base 47 12 (.slice (some ⟨w.heap.size, 0, none⟩) 1 1) 1 (nodeRow [blankM 0]) := by
    have := World.ownsRow_lit (base := base) (e := 47) (size := 12) w (nodeRow [blankM 0]).toArray 1 hbase (by simp [maxLen]) (by rfl)
    simpa using this
  refine ⟨?_, ?_, (hg.alloc _).alloc _, by omega, by omega, by simp, by simp, ?_, ?_, ?_⟩
  · have := heap_alloc_new ((w.alloc (.cells (nodeRow [blankM 0]).toArray 47)).alloc (.cells #[.slice (some ⟨w.heap.size, 0, none⟩) 1 1] 107)) (.cells #[.pointer (some ⟨w.heap.size + 1, 0, none⟩)] 110)
    simpa using this
  · rw [Below.heap_alloc _ _ _ (by simp)]
    have := heap_alloc_new (w.alloc (.cells (nodeRow [blankM 0]).toArray 47)) (.cells #[.slice (some ⟨w.heap.size, 0, none⟩) 1 1] 107)
    simpa using this
  · intro i n hi
    match i, hi with
    | 0, hi => simp at hi; subst hi; exact World.ownsRow_nil _ _ _ _
  · intro i n hi
    match i, hi with
    | 0, hi => simp at hi; subst hi; simp [blankM]
  · intro i j n m hij hi hj
    have h1 := (List.getElem?_eq_some_iff.1 hi).1
    have h2 := (List.getElem?_eq_some_iff.1 hj).1
    simp at h1 h2; omega

set_option maxHeartbeats 400000 in
theorem new_any (w : World) (base : Nat) (hbase : base ≤ w.heap.size) :
    Calls Tryz.prog 22 #[] w fun e w' => ∃ F, e = .returned (.pointer (some ⟨w.heap.size + 3, 0, none⟩)) ∧ ArS w' base (w.heap.size + 3) [blankM 0] F ∧ Below w.heap.size w w' ∧ ∀ k, F k → w.heap.size ≤ k := by
  go_enter Tryz.func22, Tryz.ntmps22
  go_wp2_with (go_at_call 59; refine (blank_any _).mono ?_; rintro e w' ⟨rfl, rfl⟩)
  go_ret
  have R := ar_new (w.alloc (.cells (nodeRow [blankM 0]).toArray 47)) base (by simp; omega)
  rw [World.size_alloc] at R
  refine ⟨_, rfl, ⟨_, _, _, R, fun k => Iff.rfl⟩, ?_, ?_⟩
  · exact (((((Below.refl _ w).alloc (Nat.le_refl _) _).alloc (by simp) _).alloc (by simp; omega) _).alloc (by simp; omega) _)
  · intro k hk
    rcases hk with rfl | rfl | rfl | ⟨n, hn, hk⟩
    · omega
    · omega
    · omega
    · simp at hn; subst hn; simp [blankM, Value.ownBlock] at hk
end Go.Proofs.YtkakncngkmoegaaGreat

namespace Go.Proofs.YtkakncngkmoegaaGreat
open Go.RowKit

theorem upd_add {w0 w w' : World} {base bA bS g g' cap' : Nat} {ns news : List NodeM} {F : Nat → Prop} (hF : ∀ k, F k ↔ foot bA bS g ns k) (hb : Below w0.heap.size w0 w)
    (h : Ar w' base bA bS g' cap' (ns ++ news)) (hm : Mod (fun k => k = bS ∨ k = g) w w') (hg : g' = g ∨ g' = w.heap.size)
    (hfresh : ∀ n ∈ news, ∀ k, n.av.ownBlock = some k → w0.heap.size ≤ k) : Upd F w0 w' base bA (ns ++ news) := by
  refine ⟨_, ⟨bS, g', cap', h, fun k => Iff.rfl⟩, ?_, ?_⟩
  · refine (Mod.of_below hb).trans (hm.mono (fun k _ hk => (hF k).2 ?_))
    rcases hk with rfl | rfl
    · exact .inr (.inl rfl)
    · exact .inr (.inr (.inl rfl))
  · intro k hk
    have hs := hb.size
    rcases hk with rfl | rfl | rfl | ⟨n, hn, hk⟩
    · exact .inl ((hF _).2 (.inl rfl))
    · exact .inl ((hF _).2 (.inr (.inl rfl)))
    · rcases hg with rfl | rfl
      · exact .inl ((hF _).2 (.inr (.inr (.inl rfl))))
      · exact .inr hs
    · rcases List.mem_append.1 hn with hn | hn
      · exact .inl ((hF _).2 (.inr (.inr (.inr ⟨n, hn, hk⟩))))
      · exact .inr (hfresh n hn k hk)

/-- Nodes without attributes may be added always. -/
theorem news_bare {w : World} {base bA bS g cap : Nat} {ns : List NodeM} (h : Ar w base bA bS g cap ns) (news : List NodeM) (hn : ∀ n ∈ news, n.av = .slice none 0 0 ∧ n.attrs = []) : News w base ns news := by
  refine ⟨fun i n hi => ?_, fun i n hi => ?_, fun i j n m hij hi hj => ?_⟩
  · have := hn n (List.mem_of_getElem? hi); rw [this.1, this.2]; exact World.ownsRow_nil _ _ _ _
  · have := hn n (List.mem_of_getElem? hi); rw [this.2]; simp
  · by_cases hl : i < ns.length
    · by_cases hl2 : j < ns.length
      · rw [List.getElem?_append_left hl] at hi; rw [List.getElem?_append_left hl2] at hj; exact h.apart i j n m hij hi hj
      · rw [List.getElem?_append_right (by omega)] at hj
        have := hn m (List.mem_of_getElem? hj)
        rw [this.1]
        cases hv : n.av.ownBlock <;> simp [Value.ownBlock]
    · rw [List.getElem?_append_right (by omega)] at hi
      have := hn n (List.mem_of_getElem? hi)
      exact .inl (by rw [this.1]; rfl)

theorem last_block (w : World) (o : Obj) (k : Nat) (hk : k = w.heap.size) : (w.alloc o).heap[k]? = some o := by subst hk; exact heap_alloc_new w o

theorem add_fits1 {w : World} {base bA bS g cap : Nat} {ns : List NodeM} (h : Ar w base bA bS g cap ns) (n : NodeM) (hn : News w base ns [n]) (hf : ns.length + 1 ≤ 32768)
    (b c : Nat) (hb : w.heap[b]? = some (.cells n.cells.toArray 47 (0, 0))) :
    Calls Tryz.prog 60 #[.pointer (some ⟨bA, 0, none⟩), .slice (some ⟨b, 0, none⟩) 1 c] w fun e w' =>
      e = .returned (.tuple #[.int .i64 ns.length, .int .i64 0]) ∧ ∃ g' cap', Ar w' base bA bS g' cap' (ns ++ [n]) ∧ Mod (fun k => k = bS ∨ k = g) w w' ∧ (g' = g ∨ g' = w.heap.size) :=
  add_fits h [n] hn (by simp) (by simpa using hf) b c (by simpa [nodeRow] using hb)

theorem add_fits2 {w : World} {base bA bS g cap : Nat} {ns : List NodeM} (h : Ar w base bA bS g cap ns) (n m : NodeM) (hn : News w base ns [n, m]) (hf : ns.length + 2 ≤ 32768)
    (b c : Nat) (hb : w.heap[b]? = some (.cells (n.cells ++ m.cells).toArray 47 (0, 0))) :
    Calls Tryz.prog 60 #[.pointer (some ⟨bA, 0, none⟩), .slice (some ⟨b, 0, none⟩) 2 c] w fun e w' =>
      e = .returned (.tuple #[.int .i64 ns.length, .int .i64 0]) ∧ ∃ g' cap', Ar w' base bA bS g' cap' (ns ++ [n, m]) ∧ Mod (fun k => k = bS ∨ k = g) w w' ∧ (g' = g ∨ g' = w.heap.size) :=
  add_fits h [n, m] hn (by simp) (by simpa using hf) b c (by simpa [nodeRow] using hb)

def dataN (kind : Int) (s : ByteArray) : NodeM := { blankM kind with data := s }

theorem one_cell_s (w : World) (t : TypeId) (x : ByteArray) : ∀ j s, [x][j]? = some s → (w.alloc (.cells #[.string x] t)).cell? ⟨w.heap.size, j, none⟩ = some (.string s) := by
  intro j s hj
  match j, hj with
  | 0, hj => simp at hj; subst hj; simp

/-- What a call that makes a node of a text gives: the nodes, the number, the error. -/
def dataR (ns : List NodeM) (kind : Int) (s : ByteArray) : List NodeM × Int × Int :=
  if longS s then (ns, 0, 2) else if ns.length + 1 ≤ 32768 then (ns ++ [dataN kind s], ns.length, 0) else (ns, 0, 9)

end Go.Proofs.YtkakncngkmoegaaGreat

namespace Go.Proofs.YtkakncngkmoegaaGreat
open Go.RowKit

def elemN (space : Int) (name : ByteArray) (l : List AttrM) (av : Value) : NodeM := { blankM 1 with space := space, name := name, av := av, attrs := l }
def tmpl : ByteArray := ⟨#[116, 101, 109, 112, 108, 97, 116, 101]⟩

theorem element_space {w : World} {base bA : Nat} {ns : List NodeM} {F : Nat → Prop} (h : ArS w base bA ns F) (space : Int) (name : ByteArray) (v : Value) (h0 : space < 0 ∨ 2 < space) :
    Calls Tryz.prog 18 #[.pointer (some ⟨bA, 0, none⟩), .int .i64 space, .string name, v] w fun e w' => e = .returned (.tuple #[.int .i64 0, .int .i64 1]) ∧ w = w' := by
  obtain ⟨bS, g, cap, h, hF⟩ := h
  have HM := hide (made_yes h)
  have h1 : (space != 0) = true := by rw [bne_iff_ne]; omega
  have h2 : (space != 1) = true := by rw [bne_iff_ne]; omega
  have h3 : (space != 2) = true := by rw [bne_iff_ne]; omega
  clear h hF h0
  go_enter Tryz.func18, Tryz.ntmps18
  go_wp2_with (go_at_call 47; refine (unhide HM).mono ?_; rintro e w' ⟨rfl, rfl⟩)
  go_ret2
  exact ⟨rfl, rfl⟩

/-- A name or an attribute too long, or too many. -/
def longE (name : ByteArray) (l : List AttrM) : Bool := longS name || decide (1024 < l.length) || l.any AttrM.long

set_option maxHeartbeats 1000000 in
theorem element_long {w : World} {base bA : Nat} {ns : List NodeM} {F : Nat → Prop} (h : ArS w base bA ns F) (space : Int) (name : ByteArray) (a : Option Addr) (cap : Nat) (l : List AttrM) (hl : AttrsIn w a l) (hn : l.length ≤ maxLen)
    (hs : 0 ≤ space ∧ space ≤ 2) (hlong : longE name l = true) :
    Calls Tryz.prog 18 #[.pointer (some ⟨bA, 0, none⟩), .int .i64 space, .string name, .slice a l.length cap] w fun e w' => e = .returned (.tuple #[.int .i64 0, .int .i64 2]) ∧ Below w.heap.size w w' := by
  obtain ⟨bS, g, cp, h, hF⟩ := h
  have HM := hide (made_yes h)
  have HL := hide (anyLong_any (w.alloc (.cells #[.string name] 9)) w.heap.size 1 [name] (one_cell_s w 9 name) (by simp))
  have hl1 := hl.below ((Below.refl _ w).alloc (Nat.le_refl _) (.cells #[.string name] 9))
  have HA := hide (anyLongAttr_any (w.alloc (.cells #[.string name] 9)) a cap l hl1 hn)
  have hb1 := (Below.refl _ w).alloc (Nat.le_refl _) (.cells #[.string name] 9)
  have HB1 := hide hb1
  have e1 : [name].any longS = longS name := by simp
  rw [e1] at HL
  clear h hF hl hl1 hb1 e1
  unfold maxLen at hn
  have hsp : space = 0 ∨ space = 1 ∨ space = 2 := by omega
  clear hs
  cases hnm : longS name with
  | true =>
    rw [hnm] at HL
    clear hnm hlong HA
    rcases hsp with rfl | rfl | rfl
    all_goals
      go_enter Tryz.func18, Tryz.ntmps18
      go_wp2_with (first
        | (go_at_call 47; refine (unhide HM).mono ?_; rintro e w' ⟨rfl, rfl⟩)
        | (go_at_call 57; refine (unhide HL).mono ?_; rintro e w' ⟨rfl, rfl⟩))
      go_ret2
      exact ⟨rfl, unhide HB1⟩
  | false =>
    rw [hnm] at HL
    by_cases hc : 1024 < l.length
    · clear hnm hlong HA
      have hc' : (1024 : Int) < (l.length : Int) := by omega
      rcases hsp with rfl | rfl | rfl
      all_goals
        go_enter Tryz.func18, Tryz.ntmps18
        go_wp2_with (first
          | (go_at_call 47; refine (unhide HM).mono ?_; rintro e w' ⟨rfl, rfl⟩)
          | (go_at_call 57; refine (unhide HL).mono ?_; rintro e w' ⟨rfl, rfl⟩))
        go_ret2
        exact ⟨rfl, unhide HB1⟩
    · have hla : l.any AttrM.long = true := by simpa [longE, hnm, hc] using hlong
      rw [hla] at HA
      clear hnm hlong hla
      have hc' : ¬ (1024 : Int) < (l.length : Int) := by omega
      rcases hsp with rfl | rfl | rfl
      all_goals
        go_enter Tryz.func18, Tryz.ntmps18
        go_wp2_with (first
          | (go_at_call 47; refine (unhide HM).mono ?_; rintro e w' ⟨rfl, rfl⟩)
          | (go_at_call 57; refine (unhide HL).mono ?_; rintro e w' ⟨rfl, rfl⟩)
          | (go_at_call 58; refine (unhide HA).mono ?_; rintro e w' ⟨rfl, hb⟩))
        go_ret2
        exact ⟨rfl, (unhide HB1).trans (hb.mono (by simp))⟩
end Go.Proofs.YtkakncngkmoegaaGreat

namespace Go.Proofs.YtkakncngkmoegaaGreat
open Go.RowKit

theorem bcell {W w1 : World} (hb : Below W.heap.size W w1) : (∀ b o, b < W.heap.size → w1.cell? ⟨b, o, none⟩ = W.cell? ⟨b, o, none⟩) ∧ (∀ b o, b < W.heap.size → w1.frozen? ⟨b, o, none⟩ = W.frozen? ⟨b, o, none⟩) :=
  ⟨fun b o h => hb.cell (p := ⟨b, o, none⟩) h, fun b o h => hb.frozen (p := ⟨b, o, none⟩) h⟩

theorem elem_ready {w w1 w2 w4 w5 : World} {base bA bS g cap : Nat} {ns : List NodeM} (h : Ar w base bA bS g cap ns) (hb1 : Below w.heap.size w w1) (hb2 : Below w1.heap.size w1 w2) (o1 o2 : Obj)
    (hb4 : Below ((w2.alloc o1).alloc o2).heap.size ((w2.alloc o1).alloc o2) w4) (hm : Mod (fun k => k = w2.heap.size + 1) w4 w5) (l : List AttrM) (hl : l.length ≤ 1024) (v : Value)
    (hov : w4.ownsRow base 148 4 v l.length (attrRow l)) (hfr : ∀ k, v.ownBlock = some k → ((w2.alloc o1).alloc o2).heap.size ≤ k)
    (n : NodeM) (hav : n.av = v) (hat : n.attrs = l) (rest : List NodeM) (hrest : ∀ m ∈ rest, m.av = .slice none 0 0 ∧ m.attrs = []) :
    Below w.heap.size w w5 ∧ Ar w5 base bA bS g cap ns ∧ News w5 base ns (n :: rest) ∧ (∀ m ∈ n :: rest, ∀ k, m.av.ownBlock = some k → w.heap.size ≤ k) := by
  subst hav
  subst hat
  have s1 := hb1.size
  have s2 := hb2.size
  have hfr' : ∀ k, n.av.ownBlock = some k → w2.heap.size + 2 ≤ k := fun k hk => by have := hfr k hk; simpa using this
  have b : Below w.heap.size w w5 := by
    have b2 : Below w.heap.size w w2 := hb1.trans (hb2.mono s1)
    have b3 : Below w.heap.size w ((w2.alloc o1).alloc o2) := (b2.alloc b2.size _).alloc (by have := b2.size; simp; omega) _
    have b4 : Below w.heap.size w w4 := b3.trans (hb4.mono b3.size)
    exact b4.trans (hm.below b4.size (fun k hk => by have := b2.size; omega))
  have own5 : w5.ownsRow base 148 4 n.av n.attrs.length (attrRow n.attrs) := ownsRow_kept hov (fun k hk => by
    obtain ⟨cur, hc⟩ := ownsRow_block hov hk
    exact hm.block k (lt_of_block hc) (fun e => by have := hfr' k hk; omega))
  refine ⟨b, h.below b, ⟨?_, ?_, ?_⟩, ?_⟩
  · intro i m hi
    cases i with
    | zero => simp at hi; subst hi; exact own5
    | succ i => have := hrest m (List.mem_of_getElem? (by simpa using hi)); rw [this.1, this.2]; exact World.ownsRow_nil _ _ _ _
  · intro i m hi
    cases i with
    | zero => simp at hi; subst hi; exact hl
    | succ i => have := hrest m (List.mem_of_getElem? (by simpa using hi)); rw [this.2]; simp
  · have cls : ∀ (i : Nat) m, (ns ++ n :: rest)[i]? = some m → (i < ns.length ∧ ns[i]? = some m) ∨ (i = ns.length ∧ m = n) ∨ m.av.ownBlock = none := by
      intro i m hi
      by_cases hlt : i < ns.length
      · rw [List.getElem?_append_left hlt] at hi; exact .inl ⟨hlt, hi⟩
      · rw [List.getElem?_append_right (by omega)] at hi
        by_cases he : i = ns.length
        · subst he; simp at hi; exact .inr (.inl ⟨rfl, hi.symm⟩)
        · obtain ⟨d, hd⟩ : ∃ d, i - ns.length = d + 1 := ⟨i - ns.length - 1, by omega⟩
          rw [hd] at hi
          have := hrest m (List.mem_of_getElem? (by simpa using hi))
          exact .inr (.inr (by rw [this.1]; rfl))
    have old : ∀ (i : Nat) m, ns[i]? = some m → ∀ k, m.av.ownBlock = some k → k < w.heap.size := fun i m hi k hk => (h.foot_lt (.inr (.inr (.inr ⟨m, List.mem_of_getElem? hi, hk⟩)))).2
    intro i j x y hij hi hj
    rcases cls i x hi with ⟨_, hi'⟩ | ⟨ei, rfl⟩ | hx
    · rcases cls j y hj with ⟨_, hj'⟩ | ⟨ej, rfl⟩ | hy
      · exact h.apart i j x y hij hi' hj'
      · cases hv : x.av.ownBlock with
        | none => exact .inl rfl
        | some k =>
          refine .inr (fun e => ?_)
          have h1 := old i x hi' k hv
          have h2 := hfr' k e.symm
          omega
      · rw [hy]; cases hv : x.av.ownBlock <;> simp
    · rcases cls j y hj with ⟨_, hj'⟩ | ⟨ej, rfl⟩ | hy
      · cases hv : x.av.ownBlock with
        | none => exact .inl rfl
        | some k =>
          refine .inr (fun e => ?_)
          have h1 := old j y hj' k e.symm
          have h2 := hfr' k hv
          omega
      · omega
      · rw [hy]; cases hv : x.av.ownBlock <;> simp
    · exact .inl hx
  · intro m hm k hk
    rcases List.mem_cons.1 hm with rfl | hm
    · have := hfr' k hk; omega
    · rw [(hrest m hm).1] at hk; simp [Value.ownBlock] at hk

theorem mod3 (w : World) (b : Nat) (v1 v2 v3 : Value) (o : Obj) : Mod (fun k => k = b) w ((((w.setCell ⟨b, 1, none⟩ v1).setCell ⟨b, 2, none⟩ v2).setCell ⟨b, 3, none⟩ v3).alloc o) :=
  (((Mod.setCell (F := fun k => k = b) w ⟨b, 1, none⟩ v1 rfl).trans (Mod.setCell (F := fun k => k = b) _ ⟨b, 2, none⟩ v2 rfl)).trans (Mod.setCell (F := fun k => k = b) _ ⟨b, 3, none⟩ v3 rfl)).trans (Mod.alloc _ o)

/-- Is it the name template? -/
def isT (name : ByteArray) : Bool := name.toList == [116, 101, 109, 112, 108, 97, 116, 101]

set_option maxHeartbeats 2000000 in
theorem element_plain {w : World} {base bA : Nat} {ns : List NodeM} {F : Nat → Prop} (h : ArS w base bA ns F) (space : Int) (name : ByteArray) (a : Option Addr) (cap : Nat) (l : List AttrM) (hl : AttrsIn w a l)
    (hs : space = 1 ∨ space = 2 ∨ (space = 0 ∧ isT name = false)) (hlong : longE name l = false) (hf : ns.length + 1 ≤ 32768) :
    Calls Tryz.prog 18 #[.pointer (some ⟨bA, 0, none⟩), .int .i64 space, .string name, .slice a l.length cap] w fun e w' => e = .returned (.tuple #[.int .i64 ns.length, .int .i64 0]) ∧ ∃ av, Upd F w w' base bA (ns ++ [elemN space name l av]) := by
  have hbase := h.base_le
  obtain ⟨bS, g, cp, h, hF⟩ := h
  have hlen : l.length ≤ 1024 := by simp [longE] at hlong; omega
  have hnm : longS name = false := by simp [longE] at hlong; exact hlong.1.1
  have hla : l.any AttrM.long = false := by simp [longE] at hlong; simpa using hlong.2
  have HM := hide (made_yes h)
  have HL := hide (anyLong_any (w.alloc (.cells #[.string name] 9)) w.heap.size 1 [name] (one_cell_s w 9 name) (by simp))
  have hl1 := hl.below ((Below.refl _ w).alloc (Nat.le_refl _) (.cells #[.string name] 9))
  have HA := hide (anyLongAttr_any (w.alloc (.cells #[.string name] 9)) a cap l hl1 (by unfold maxLen; omega))
  have HB1 := hide ((Below.refl _ w).alloc (Nat.le_refl _) (.cells #[.string name] 9))
  have e1 : [name].any longS = longS name := by simp
  rw [e1, hnm] at HL
  rw [hla] at HA
  have HI := hide hl1
  have HH := hide h
  have HF := hide hF
  clear h hF hl hl1 e1 hnm hla hlong
  unfold isT at hs
  have hc' : ¬ (1024 : Int) < (l.length : Int) := by omega
  rcases hs with rfl | rfl | ⟨rfl, hne⟩
  all_goals
    go_enter Tryz.func18, Tryz.ntmps18
    go_wp2_with (first
      | (go_at_call 47; refine (unhide HM).mono ?_; rintro e w' ⟨rfl, rfl⟩)
      | (go_at_call 57; refine (unhide HL).mono ?_; rintro e w' ⟨rfl, rfl⟩)
      | (go_at_call 58; refine (unhide HA).mono ?_; rintro e w2 ⟨rfl, hb2⟩; have HB2 := hide hb2; clear hb2)
      | (go_at_call 59; refine (blank_any _).mono ?_; rintro e w' ⟨rfl, rfl⟩)
      | (go_at_call 51; refine (ownAttrs_any _ base (by have := (unhide HB2).size; simp at this ⊢; omega) a cap l ((((unhide HI).below (unhide HB2)).below ((Below.refl _ _).alloc (Nat.le_refl _) _)).below ((Below.refl _ _).alloc (Nat.le_refl _) _)) hlen).mono ?_; rintro e w4 ⟨ao, cp4, rfl, hov, hb4, hfr⟩; have HOV := hide hov; have HB4 := hide hb4; have HFR := hide hfr; obtain ⟨bc, bf⟩ := bcell hb4; simp at bc bf; clear hov hb4 hfr))
    obtain ⟨R1, R2, R3, R4⟩ := elem_ready (unhide HH) (unhide HB1) (unhide HB2) _ _ (unhide HB4) (mod3 w4 _ _ _ _ _) l hlen _ (unhide HOV) (unhide HFR) (elemN _ name l (.slice ao l.length cp4)) rfl rfl [] (by simp)
    refine (add_fits1 (n := elemN _ name l (.slice ao l.length cp4)) R2 R3 hf _ _ (last_block _ _ _ (by simp))).mono ?_
    rintro e w' ⟨rfl, g', cap', har, hmod, hgg⟩
    have HR1 := hide R1
    have HR4 := hide R4
    clear R1 R2 R3 R4 bc bf
    go_wp2
    go_ret2
    exact ⟨rfl, _, upd_add (unhide HF) (unhide HR1) har hmod hgg (unhide HR4)⟩
end Go.Proofs.YtkakncngkmoegaaGreat

namespace Go.Proofs.YtkakncngkmoegaaGreat
open Go.RowKit

theorem mod4 (w : World) (b : Nat) (v1 v2 v3 v4 : Value) (o1 o2 : Obj) : Mod (fun k => k = b) w ((((((w.setCell ⟨b, 1, none⟩ v1).setCell ⟨b, 2, none⟩ v2).setCell ⟨b, 3, none⟩ v3).setCell ⟨b, 11, none⟩ v4).alloc o1).alloc o2).drew :=
  ((((((Mod.setCell (F := fun k => k = b) w ⟨b, 1, none⟩ v1 rfl).trans (Mod.setCell (F := fun k => k = b) _ ⟨b, 2, none⟩ v2 rfl)).trans (Mod.setCell (F := fun k => k = b) _ ⟨b, 3, none⟩ v3 rfl)).trans (Mod.setCell (F := fun k => k = b) _ ⟨b, 11, none⟩ v4 rfl)).trans (Mod.alloc _ o1)).trans (Mod.alloc _ o2)).trans (Mod.of_below (Below.refl _ _).drew)

theorem last_block_drew (w : World) (o : Obj) (k : Nat) (hk : k = w.heap.size) : (w.alloc o).drew.heap[k]? = some o := last_block w o k hk

set_option maxHeartbeats 4000000 in
theorem element_tmpl {w : World} {base bA : Nat} {ns : List NodeM} {F : Nat → Prop} (h : ArS w base bA ns F) (name : ByteArray) (a : Option Addr) (cap : Nat) (l : List AttrM) (hl : AttrsIn w a l)
    (hs : isT name = true) (hlong : longE name l = false) (hf : ns.length + 2 ≤ 32768) :
    Calls Tryz.prog 18 #[.pointer (some ⟨bA, 0, none⟩), .int .i64 0, .string name, .slice a l.length cap] w fun e w' => e = .returned (.tuple #[.int .i64 ns.length, .int .i64 0]) ∧
      ∃ av, Upd F w w' base bA (ns ++ [{ elemN 0 name l av with inner := ns.length + 1 }, blankM 5]) := by
  have hbase := h.base_le
  obtain ⟨bS, g, cp, h, hF⟩ := h
  have hlen : l.length ≤ 1024 := by simp [longE] at hlong; omega
  have hnm : longS name = false := by simp [longE] at hlong; exact hlong.1.1
  have hla : l.any AttrM.long = false := by simp [longE] at hlong; simpa using hlong.2
  have HM := hide (made_yes h)
  have HL := hide (anyLong_any (w.alloc (.cells #[.string name] 9)) w.heap.size 1 [name] (one_cell_s w 9 name) (by simp))
  have hl1 := hl.below ((Below.refl _ w).alloc (Nat.le_refl _) (.cells #[.string name] 9))
  have HA := hide (anyLongAttr_any (w.alloc (.cells #[.string name] 9)) a cap l hl1 (by unfold maxLen; omega))
  have HB1 := hide ((Below.refl _ w).alloc (Nat.le_refl _) (.cells #[.string name] 9))
  have e1 : [name].any longS = longS name := by simp
  rw [e1, hnm] at HL
  rw [hla] at HA
  have HI := hide hl1
  have HH := hide h
  have HF := hide hF
  have ltA := h.lt.1
  have ltS := h.lt.2.1
  clear h hF hl hl1 e1 hnm hla hlong
  unfold isT at hs
  have hc' : ¬ (1024 : Int) < (l.length : Int) := by omega
  go_enter Tryz.func18, Tryz.ntmps18
  go_wp2_with (first
      | (go_at_call 47; refine (unhide HM).mono ?_; rintro e w' ⟨rfl, rfl⟩)
      | (go_at_call 57; refine (unhide HL).mono ?_; rintro e w' ⟨rfl, rfl⟩)
      | (go_at_call 58; refine (unhide HA).mono ?_; rintro e w2 ⟨rfl, hb2⟩; have HB2 := hide hb2; have sz2 : w.heap.size < w2.heap.size := (by have := hb2.size; simp at this; omega); have neA : ¬ bA = w2.heap.size + 1 := (by omega); have neS : ¬ bS = w2.heap.size + 1 := (by omega); clear hb2)
      | (go_at_call 59; refine (blank_any _).mono ?_; rintro e w' ⟨rfl, rfl⟩)
      | (go_at_call 51; refine (ownAttrs_any _ base (by have := (unhide HB2).size; simp at this ⊢; omega) a cap l ((((unhide HI).below (unhide HB2)).below ((Below.refl _ _).alloc (Nat.le_refl _) _)).below ((Below.refl _ _).alloc (Nat.le_refl _) _)) hlen).mono ?_; rintro e w4 ⟨ao, cp4, rfl, hov, hb4, hfr⟩; have HOV := hide hov; have HB4 := hide hb4; have HFR := hide hfr; have hz4 : w2.heap.size + 1 < w4.heap.size := (by have := hb4.size; simp at this; omega); have har4 := ((((unhide HH).below (unhide HB1)).below (unhide HB2)).alloc _ |>.alloc _).below hb4; have hA4 := har4.cA; have hS4 := har4.cS; obtain ⟨bc, bf⟩ := bcell hb4; simp at bc bf; clear hov hb4 hfr har4))
  go_region_with (first
      | (go_at_call 59; refine (blank_any _).mono ?_; rintro e w' ⟨rfl, rfl⟩)
      | (go_at_call 60; obtain ⟨R1, R2, R3, R4⟩ := elem_ready (unhide HH) (unhide HB1) (unhide HB2) _ _ (unhide HB4) (mod4 w4 _ _ _ _ _ _ _) l hlen _ (unhide HOV) (unhide HFR) { elemN 0 name l (.slice ao l.length cp4) with inner := ns.length + 1 } rfl rfl [blankM 5] (by simp [blankM]); refine (add_fits2 (n := { elemN 0 name l (.slice ao l.length cp4) with inner := ns.length + 1 }) (m := blankM 5) R2 R3 hf _ _ (last_block_drew _ _ _ (by simp))).mono ?_; rintro e w' ⟨rfl, g', cap', har, hmod, hgg⟩; have HR1 := hide R1; have HR4 := hide R4; clear R1 R2 R3 R4 bc bf))
  all_goals go_wp2
  all_goals go_ret2
  all_goals exact ⟨rfl, _, upd_add (unhide HF) (unhide HR1) har hmod hgg (unhide HR4)⟩
end Go.Proofs.YtkakncngkmoegaaGreat
