import Derived.Test.YtmllhebmaldgfaaOwn
import Derived.Deep.RegionLaw
import Derived.Deep.AppendLies
/-
  A node more: add.
-/
namespace Go.Proofs.Ytmllhebmaldgfaa
open Go.RowKit

/-- w' is w but for new blocks and for writes to the blocks of F. -/
structure Mod (F : Nat → Prop) (w w' : World) : Prop where
  os : w'.os = w.os
  tape : w'.tape = w.tape
  output : w'.output = w.output
  size : w.heap.size ≤ w'.heap.size
  block : ∀ k, k < w.heap.size → ¬ F k → w'.heap[k]? = w.heap[k]?

theorem Mod.refl (F : Nat → Prop) (w : World) : Mod F w w := ⟨rfl, rfl, rfl, Nat.le_refl _, fun _ _ _ => rfl⟩
theorem Mod.trans {F : Nat → Prop} {a b c : World} (h : Mod F a b) (k : Mod F b c) : Mod F a c :=
  ⟨k.os.trans h.os, k.tape.trans h.tape, k.output.trans h.output, Nat.le_trans h.size k.size, fun i hi hf => (k.block i (Nat.lt_of_lt_of_le hi h.size) hf).trans (h.block i hi hf)⟩
theorem Mod.mono {F G : Nat → Prop} {w w' : World} (h : Mod F w w') (hF : ∀ k, k < w.heap.size → F k → G k) : Mod G w w' := ⟨h.os, h.tape, h.output, h.size, fun k hk hg => h.block k hk (fun hf => hg (hF k hk hf))⟩
theorem Mod.of_below {F : Nat → Prop} {w w' : World} (h : Below w.heap.size w w') : Mod F w w' := ⟨h.os, h.tape, h.output, h.size, fun k hk _ => h.block k hk⟩
theorem Mod.below {F : Nat → Prop} {B : Nat} {w w' : World} (h : Mod F w w') (hB : B ≤ w.heap.size) (hF : ∀ k, F k → B ≤ k) : Below B w w' :=
  ⟨h.os, h.tape, h.output, h.size, fun k hk => h.block k (by omega) (fun hf => by have := hF k hf; omega)⟩
theorem Mod.setCell {F : Nat → Prop} (w : World) (a : Addr) (v : Value) (h : F a.block) : Mod F w (w.setCell a v) :=
  ⟨rfl, rfl, rfl, by simp [World.setCell], fun k _ hf => Below.heap_setCell _ _ _ _ (fun e => hf (e ▸ h))⟩
theorem Mod.grown {F : Nat → Prop} {w w' : World} {row : Option Nat} (h : w.grownBy w' row) (hr : ∀ k, row = some k → F k) : Mod F w w' :=
  ⟨h.os, h.tape, h.output, h.size, fun k hk hf => h.block k hk (fun e => hf (hr k e.symm))⟩
theorem Mod.alloc {F : Nat → Prop} (w : World) (o : Obj) : Mod F w (w.alloc o) := Mod.of_below ((Below.refl _ w).alloc (Nat.le_refl _) o)

theorem Ar.mod {w w' : World} {base bA bS g cap : Nat} {ns : List NodeM} {F : Nat → Prop} (h : Ar w base bA bS g cap ns) (hm : Mod F w w') (hF : ∀ k, foot bA bS g ns k → ¬ F k) : Ar w' base bA bS g cap ns :=
  h.same fun k hk => hm.block k (h.foot_lt hk).2 (hF k hk)

theorem Try.info44 : (Try.prog.info? 44).map (fun i => (i.zero, i.size, i.bytes)) = some (some (.agg #[.int .i64 0, .int .i64 0, .string ⟨#[]⟩, .slice none 0 0, .string ⟨#[]⟩, .string ⟨#[]⟩, .int .i64 0, .int .i64 0, .int .i64 0, .int .i64 0, .int .i64 0, .int .i64 0]), 12, 136) := by kernel_rfl

theorem ownsRow_kept {w w' : World} {base : Nat} {e : TypeId} {size : Nat} {v : Value} {n : Nat} {xs : List Value} (h : w.ownsRow base e size v n xs) (hk : ∀ k, v.ownBlock = some k → w'.heap[k]? = w.heap[k]?) : w'.ownsRow base e size v n xs := by
  refine ⟨h.1, ?_⟩
  rcases h.2 with hn | ⟨g', cap', cur, rfl, hbb, hgg, rest⟩
  · exact .inl hn
  · exact .inr ⟨g', cap', cur, rfl, hbb, by rw [hk g' rfl]; exact hgg, rest⟩

theorem ownsRow_oneCell {w : World} {base : Nat} {e : TypeId} {size : Nat} {v : Value} {n : Nat} {xs : List Value} (h : w.ownsRow base e size v n xs) : v.oneCell' = true := by
  rcases h.2 with ⟨rfl, _⟩ | ⟨g', cap', cur, rfl, _⟩ <;> rfl

theorem nodes_oneCell (l : List NodeM) (h : ∀ n ∈ l, n.av.oneCell' = true) : ∀ u ∈ nodeRow l, u.oneCell' = true := by
  intro u hu
  simp only [nodeRow, List.mem_flatMap] at hu
  obtain ⟨x, hxl, hx⟩ := hu
  simp [NodeM.cells] at hx
  have := h x hxl
  rcases hx with rfl | rfl | rfl | rfl | rfl | rfl | rfl | rfl | rfl | rfl | rfl | rfl <;> first | rfl | exact this

/-- What a new node must be: its attributes in a row of their own, no other node's. -/
structure News (w : World) (base : Nat) (ns news : List NodeM) : Prop where
  attrs : ∀ (i : Nat) n, news[i]? = some n → w.ownsRow base 137 4 n.av n.attrs.length (attrRow n.attrs)
  few : ∀ (i : Nat) n, news[i]? = some n → n.attrs.length ≤ 1024
  apart : ∀ (i j : Nat) n m, i ≠ j → (ns ++ news)[i]? = some n → (ns ++ news)[j]? = some m → n.av.ownBlock = none ∨ n.av.ownBlock ≠ m.av.ownBlock

theorem Ar.grow {w w1 : World} {base bA bS g cap g' cap' : Nat} {ns news : List NodeM} (h : Ar w base bA bS g cap ns) (hn : News w base ns news) (hlen : ns.length + news.length ≤ 32768)
    (hown : w1.ownsRow base 44 12 (.slice (some ⟨g', 0, none⟩) (ns.length + news.length) cap') (ns.length + news.length) (nodeRow ns ++ nodeRow news)) (hgrow : w.grownBy w1 (some g)) :
    Ar (w1.setCell ⟨bS, 0, none⟩ (.slice (some ⟨g', 0, none⟩) (ns.length + news.length) cap')) base bA bS g' cap' (ns ++ news) ∧
      Mod (fun k => k = bS ∨ k = g) w (w1.setCell ⟨bS, 0, none⟩ (.slice (some ⟨g', 0, none⟩) (ns.length + news.length) cap')) := by
  have b1 : ∀ k, k < w.heap.size → k ≠ g → w1.heap[k]? = w.heap[k]? := fun k hk hne => hgrow.block k hk (by simpa using hne)
  have hA1 := (b1 bA h.lt.1 h.neAg).trans h.arena
  have hS1 := (b1 bS h.lt.2.1 h.neSg).trans h.store
  have hgS : g' ≠ bS := by
    intro e; subst e
    obtain ⟨cur, hc⟩ := ownsRow_block hown (k := g') rfl
    rw [hc] at hS1; simp at hS1
  have b2 : ∀ k, k ≠ bS → (w1.setCell ⟨bS, 0, none⟩ (.slice (some ⟨g', 0, none⟩) (ns.length + news.length) cap')).heap[k]? = w1.heap[k]? := fun k hk => Below.heap_setCell _ _ _ _ hk
  have all : ∀ (i : Nat) n, (ns ++ news)[i]? = some n → w.ownsRow base 137 4 n.av n.attrs.length (attrRow n.attrs) ∧ n.attrs.length ≤ 1024 := by
    intro i n hi
    by_cases hl : i < ns.length
    · rw [List.getElem?_append_left hl] at hi; exact ⟨h.attrs i n hi, h.few i n hi⟩
    · rw [List.getElem?_append_right (by omega)] at hi; exact ⟨hn.attrs _ n hi, hn.few _ n hi⟩
  refine ⟨⟨by rw [b2 bA h.neAS]; exact hA1, ?_, ?_, h.lo1, h.lo2, by simp; have := h.pos; omega, by simpa using hlen, ?_, fun i n hi => (all i n hi).2, hn.apart⟩, ?_⟩
  · rw [List.length_append]; exact one_setCell hS1
  · rw [List.length_append]
    have : nodeRow (ns ++ news) = nodeRow ns ++ nodeRow news := by simp [nodeRow]
    rw [this]
    exact ownsRow_setCell_other hown (by simp [Value.ownBlock]; exact hgS) _
  · intro i n hi
    refine ownsRow_kept (all i n hi).1 (fun k hk => ?_)
    obtain ⟨cur, hc⟩ := ownsRow_block (all i n hi).1 hk
    have hklt := lt_of_block hc
    have hkS : k ≠ bS := by intro e; subst e; rw [h.store] at hc; simp at hc
    have hkg : k ≠ g := by intro e; subst e; obtain ⟨cu, hg⟩ := h.blockg; rw [hc] at hg; simp at hg
    rw [b2 k hkS, b1 k hklt hkg]
  · exact (Mod.grown hgrow (by simp)).trans (Mod.setCell _ _ _ (.inl rfl))

theorem add_full {w : World} {base bA bS g cap : Nat} {ns : List NodeM} (h : Ar w base bA bS g cap ns) (b c m : Nat) (hm2 : m ≤ 2) (hf : ¬ ns.length + m ≤ 32768) :
    Calls Try.prog 79 #[.pointer (some ⟨bA, 0, none⟩), .slice (some ⟨b, 0, none⟩) m c] w fun e w' => e = .returned (.tuple #[.int .i64 0, .int .i64 9]) ∧ w = w' := by
  have hA := h.cA
  have hS := h.cS
  have hm := h.most
  clear h
  have hneg : (32768 : Int) - m < ns.length := by omega
  go_enter Try.func79, Try.ntmps79
  go_wp2
  go_ret2
  exact ⟨rfl, rfl⟩

set_option maxRecDepth 100000 in
set_option maxHeartbeats 3200000 in
theorem add_fits {w : World} {base bA bS g cap : Nat} {ns : List NodeM} (h : Ar w base bA bS g cap ns) (news : List NodeM) (hn : News w base ns news) (hpos : 0 < news.length) (hf : ns.length + news.length ≤ 32768)
    (b c : Nat) (hb : w.heap[b]? = some (.cells (nodeRow news).toArray 44 (0, 0))) :
    Calls Try.prog 79 #[.pointer (some ⟨bA, 0, none⟩), .slice (some ⟨b, 0, none⟩) news.length c] w fun e w' =>
      e = .returned (.tuple #[.int .i64 ns.length, .int .i64 0]) ∧ ∃ g' cap', Ar w' base bA bS g' cap' (ns ++ news) ∧ Mod (fun k => k = bS ∨ k = g) w w' ∧ (g' = g ∨ g' = w.heap.size) := by
  have hA := h.cA
  have hS := h.cS
  have hm := h.most
  obtain ⟨i0, hi0, hz0, hz1, hz2⟩ := info_parts Try.info44
  have hlA := h.lt.1
  have hlS := h.lt.2.1
  have neA := h.neAg
  have neS := h.neSg
  have hfS := h.fS
  have hlen : (nodeRow news).length = news.length * 12 := flat_len NodeM.cells 12 node_len news
  have hnews := World.news_of_block hb
  have HN := hide hnews
  have HL := hide hlen
  have HO := hide (nodes_oneCell news (fun n hnn => by obtain ⟨i, hi⟩ := List.mem_iff_getElem?.1 hnn; exact ownsRow_oneCell (hn.attrs i n hi)))
  have HR := hide h.row
  have HB := hide (h.foot_lt (.inl rfl)).1
  have HH := hide h
  have HNW := hide hn
  clear hnews hlen h hn hb
  have hneg : ¬ (32768 : Int) - news.length < ns.length := by omega
  go_enter Try.func79, Try.ntmps79
  go_wp2_with fail
  go_region_law ((refine step_append_lies _ (by rfl) _ _ _ (by rfl) base 44 i0 _ 12 136 Try.underlying90 hi0 hz0 hz1 hz2 rfl (by omega) (.slice (some ⟨g, 0, none⟩) ns.length cap) ns.length (nodeRow ns) (by rfl) (by exact (unhide HR)) ⟨b, 0, none⟩ news.length c (nodeRow news) (by rfl) (by exact (unhide HL)) (by exact (unhide HN)) (by exact (unhide HO)) hpos (by unfold maxLen; omega) (by omega) (by exact Nat.le_trans (unhide HB) (by simp; omega)) w.heap.size (by simp) ?_; intro g' cap' w1 hown1 hgrow hat hlt; have hA1 : w1.cell? ⟨bA, 0, none⟩ = some (.pointer (some ⟨bS, 0, none⟩)) := ((hgrow.cell_far ⟨bA, 0, none⟩ (by simp; omega) (by simp [Value.ownBlock]; omega)).trans (by simpa using hA)); have hS1 : w1.cell? ⟨bS, 0, none⟩ = some (.slice (some ⟨g, 0, none⟩) ns.length cap) := ((hgrow.cell_far ⟨bS, 0, none⟩ (by simp; omega) (by simp [Value.ownBlock]; omega)).trans (by simpa using hS)); have hF1 : w1.frozen? ⟨bS, 0, none⟩ = false := ((hgrow.frozen_far ⟨bS, 0, none⟩ (by simp; omega) (by simp [Value.ownBlock]; omega)).trans (by simpa using hfS))))
  all_goals go_wp2
  all_goals go_ret2
  all_goals
    have R := (unhide HH).grow (unhide HNW) hf hown1 ⟨hgrow.os, hgrow.tape, hgrow.output, hgrow.size, hgrow.block⟩
    exact ⟨rfl, g', cap', R.1, R.2, hat.imp (fun e => (Option.some.inj e).symm) id⟩
end Go.Proofs.Ytmllhebmaldgfaa
