/-
  What stores do to a stream in memory. No function of the program is named here.
-/
import Derived.Test.YtlhebbhpcepfhaaPd
namespace Go.Proofs.Ytlhebbhpcepfhaa
open Go.RowKit

/-- A stream, its places hidden. -/
structure StrM where
  parts : List (List Int)
  cr : Bool
  ended : Bool
  dropped : Bool

def StrM.len (m : StrM) : Nat := (m.parts.map List.length).sum

def StrS (w : World) (base bS : Nat) (m : StrM) (F : Nat → Prop) : Prop :=
  ∃ bP pcap bC ps, StrAt w base bS bP pcap bC ps m.cr m.ended m.dropped ∧ ps.map PartM.xs = m.parts ∧ m.len ≤ 1048576 ∧ ∀ k, F k ↔ footS bS bP bC ps k

/-- Behind a call the stream is m; only its own blocks were written. -/
def UpdS (F : Nat → Prop) (w w' : World) (base bS : Nat) (m : StrM) : Prop := ∃ F', StrS w' base bS m F' ∧ Mod F w w' ∧ ∀ k, F' k → F k ∨ w.heap.size ≤ k

theorem lenP_eq {ps : List PartM} {m : StrM} (h : ps.map PartM.xs = m.parts) : lenP ps = m.len := by
  unfold lenP StrM.len
  rw [← h]
  simp [Function.comp_def]

section
variable {w w' : World} {base bS : Nat} {m : StrM} {F G : Nat → Prop}
theorem StrS.lt (h : StrS w base bS m F) {k : Nat} (hk : F k) : base ≤ k ∧ k < w.heap.size := by
  obtain ⟨bP, pcap, bC, ps, h, _, _, hF⟩ := h
  exact h.foot_lt ((hF k).1 hk)
theorem StrS.mod (h : StrS w base bS m F) (hm : Mod G w w') (hG : ∀ k, F k → ¬ G k) : StrS w' base bS m F := by
  obtain ⟨bP, pcap, bC, ps, h, e, l, hF⟩ := h
  exact ⟨bP, pcap, bC, ps, h.mod hm (fun k hk => hG k ((hF k).2 hk)), e, l, hF⟩
theorem StrS.below (h : StrS w base bS m F) (hb : Below w.heap.size w w') : StrS w' base bS m F := h.mod (Mod.of_below (F := fun _ => False) hb) (fun _ _ e => e)
theorem StrS.upd (h : StrS w base bS m F) (hb : Below w.heap.size w w') : UpdS F w w' base bS m := ⟨F, h.below hb, Mod.of_below hb, fun _ hk => .inl hk⟩
theorem StrS.base_le (h : StrS w base bS m F) : base ≤ w.heap.size ∧ bS < w.heap.size := by
  obtain ⟨bP, pcap, bC, ps, h, _⟩ := h
  have := h.foot_lt (.inl rfl)
  omega
theorem UpdS.after {w1 w2 : World} (hb : Below w.heap.size w w1) (h : UpdS F w1 w2 base bS m) : UpdS F w w2 base bS m := by
  obtain ⟨F', h1, h2, h3⟩ := h
  exact ⟨F', h1, (Mod.of_below hb).trans h2, fun k hk => (h3 k hk).imp id (fun h => Nat.le_trans hb.size h)⟩
theorem UpdS.then {w1 w2 : World} (h : UpdS F w w1 base bS m) (hb : Below w1.heap.size w1 w2) : UpdS F w w2 base bS m := by
  obtain ⟨F', h1, h2, h3⟩ := h
  exact ⟨F', h1.below hb, h2.trans (Mod.of_below hb), h3⟩
theorem UpdS.trans {w1 w2 : World} {m2 : StrM} (h : UpdS F w w1 base bS m) (k : ∀ F1, StrS w1 base bS m F1 → UpdS F1 w1 w2 base bS m2) : UpdS F w w2 base bS m2 := by
  obtain ⟨F', h1, h2, h3⟩ := h
  obtain ⟨F2, g1, g2, g3⟩ := k F' h1
  refine ⟨F2, g1, h2.then g2 h3, fun k hk => ?_⟩
  rcases g3 k hk with h | h
  · exact h3 k h
  · exact .inr (Nat.le_trans h2.size h)
end

section
variable {w w1 : World} {base bS bP pcap bC : Nat} {ps : List PartM} {cr ended dropped : Bool}

theorem four_set {b : Nat} {x0 x1 x2 x3 : Value} {t : TypeId} (h : w.heap[b]? = some (.cells #[x0, x1, x2, x3] t (0, 0))) (v : Value) :
    (w.setCell ⟨b, 0, none⟩ v).heap[b]? = some (.cells #[v, x1, x2, x3] t (0, 0)) ∧ (w.setCell ⟨b, 2, none⟩ v).heap[b]? = some (.cells #[x0, x1, v, x3] t (0, 0)) ∧ (w.setCell ⟨b, 3, none⟩ v).heap[b]? = some (.cells #[x0, x1, x2, v] t (0, 0)) := by
  refine ⟨?_, ?_, ?_⟩ <;> simp [World.setCell, Array.getElem?_modify, h]

theorem setCell_far (w : World) (a : Addr) (v : Value) {k : Nat} (h : k ≠ a.block) : (w.setCell a v).heap[k]? = w.heap[k]? := Below.heap_setCell _ _ _ _ h

theorem StrAt.setEnded (h : StrAt w base bS bP pcap bC ps cr ended dropped) (x : Bool) : StrAt (w.setCell ⟨bS, 2, none⟩ (.bool x)) base bS bP pcap bC ps cr x dropped := by
  obtain ⟨n1, n2, n3⟩ := h.ne
  refine ⟨(four_set h.box _).2.1, ownsRow_kept h.row (fun k hk => by simp [Value.ownBlock] at hk; subst hk; exact setCell_far _ _ _ n1.symm), ?_, fun i p hi => (h.parts i p hi).kept (fun k hk => setCell_far _ _ _ (fun e => (h.neP hi).1 (by rw [hk, e]))), h.apart, h.pos, h.few, h.lo⟩
  unfold Cr
  rw [setCell_far _ _ _ n2.symm]
  exact h.mem
theorem StrAt.setDropped (h : StrAt w base bS bP pcap bC ps cr ended dropped) (x : Bool) : StrAt (w.setCell ⟨bS, 3, none⟩ (.bool x)) base bS bP pcap bC ps cr ended x := by
  obtain ⟨n1, n2, n3⟩ := h.ne
  refine ⟨(four_set h.box _).2.2, ownsRow_kept h.row (fun k hk => by simp [Value.ownBlock] at hk; subst hk; exact setCell_far _ _ _ n1.symm), ?_, fun i p hi => (h.parts i p hi).kept (fun k hk => setCell_far _ _ _ (fun e => (h.neP hi).1 (by rw [hk, e]))), h.apart, h.pos, h.few, h.lo⟩
  unfold Cr
  rw [setCell_far _ _ _ n2.symm]
  exact h.mem

/-- Other parts, in another row: the parts' blocks stay as they are. -/
theorem StrAt.setRow (h : StrAt w base bS bP pcap bC ps cr ended dropped) {g cap : Nat} {qs : List PartM} (hm : Mod (fun k => k = bP) w w1) (hrow : w1.ownsRow base 28 1 (.slice (some ⟨g, 0, none⟩) qs.length cap) qs.length (qs.map PartM.val))
    (hp : ∀ (i : Nat) p, qs[i]? = some p → PartAt w1 base p) (ha : ∀ (i j : Nat) p q, i ≠ j → qs[i]? = some p → qs[j]? = some q → p.own = none ∨ p.own ≠ q.own) (hpos : 0 < qs.length) (hfew : qs.length ≤ 22) :
    StrAt (w1.setCell ⟨bS, 0, none⟩ (.slice (some ⟨g, 0, none⟩) qs.length cap)) base bS g cap bC qs cr ended dropped ∧ Mod (fun k => k = bS ∨ k = bP) w (w1.setCell ⟨bS, 0, none⟩ (.slice (some ⟨g, 0, none⟩) qs.length cap)) := by
  obtain ⟨n1, n2, n3⟩ := h.ne
  have hb1 : w1.heap[bS]? = _ := (hm.block bS h.lt.1 (fun e => n1 e)).trans h.box
  have hc1 : w1.heap[bC]? = _ := (hm.block bC h.lt.2.2 (fun e => n3 e.symm)).trans h.mem
  have hg : g ≠ bS := by
    rcases hrow.2 with ⟨h', _⟩ | ⟨g', cap', cur, h', _, hg, _⟩
    · simp at h'
    · simp only [Value.slice.injEq, Option.some.injEq, Addr.mk.injEq, and_true, true_and] at h'
      obtain ⟨rfl, rfl⟩ := h'
      rintro rfl
      rw [hb1] at hg
      cases hg
  refine ⟨⟨(four_set hb1 _).1, ownsRow_kept hrow (fun k hk => by simp [Value.ownBlock] at hk; subst hk; exact setCell_far _ _ _ hg), ?_, fun i p hi => (hp i p hi).kept (fun k hk => setCell_far _ _ _ (fun e => ?_)), ha, hpos, hfew, h.lo⟩, (hm.mono (fun _ _ h => .inr h)).trans (Mod.setCell _ _ _ (.inl rfl))⟩
  · unfold Cr
    rw [setCell_far _ _ _ n2.symm]
    exact hc1
  · simp only at e
    subst e
    obtain ⟨_, _, cu, hcu⟩ := (hp i p hi).own_lt hk
    rw [hb1] at hcu
    cases hcu

/-- One part is another; its block was written, or it has a new one. -/
theorem StrAt.put (h : StrAt w base bS bP pcap bC ps cr ended dropped) {i : Nat} {p p' : PartM} (hi : ps[i]? = some p) {cr' : Bool} (hm : Mod (fun k => p.own = some k ∨ k = bC) w w1) (hp : PartAt w1 base p') (ho : ∀ k, p'.own = some k → p.own = some k ∨ w.heap.size ≤ k) (hc : Cr w1 bC cr') :
    StrAt (w1.setCell ⟨bP, i, none⟩ p'.val) base bS bP pcap bC (ps.set i p') cr' ended dropped ∧ Mod (footS bS bP bC ps) w (w1.setCell ⟨bP, i, none⟩ p'.val) := by
  obtain ⟨n1, n2, n3⟩ := h.ne
  have hlt := (List.getElem?_eq_some_iff.1 hi).1
  have hne := h.neP hi
  have kept : ∀ k, k < w.heap.size → p.own ≠ some k → k ≠ bC → w1.heap[k]? = w.heap[k]? := fun k hk h1 h2 => hm.block k hk (fun e => e.elim h1 h2)
  have hb1 := (kept bS h.lt.1 hne.1 n2).trans h.box
  have hrow1 : w1.ownsRow base 28 1 (.slice (some ⟨bP, 0, none⟩) ps.length pcap) ps.length (ps.map PartM.val) := ownsRow_kept h.row (fun k hk => by simp [Value.ownBlock] at hk; subst hk; exact kept _ h.lt.2.1 hne.2.1 n3)
  have hst := (hrow1.stored i p'.val).1
  have hset : (ps.map PartM.val).set i p'.val = (ps.set i p').map PartM.val := by rw [List.map_set]
  have oth : ∀ (j : Nat) q, (ps.set i p')[j]? = some q → (j = i ∧ q = p') ∨ (j ≠ i ∧ ps[j]? = some q) := by
    intro j q hq
    by_cases e : i = j
    · subst e; rw [List.getElem?_set_self hlt] at hq; cases hq; exact .inl ⟨rfl, rfl⟩
    · rw [List.getElem?_set_ne e] at hq; exact .inr ⟨fun h => e h.symm, hq⟩
  have hpP : p'.own ≠ some bP := by
    intro e
    rcases ho bP e with h1 | h1
    · exact hne.2.1 h1
    · have := h.lt.2.1; omega
  refine ⟨⟨by rw [setCell_far _ _ _ n1, List.length_set]; exact hb1, by rw [List.length_set, ← hset]; exact hst, ?_, ?_, ?_, by rw [List.length_set]; exact h.pos, by rw [List.length_set]; exact h.few, h.lo⟩, ?_⟩
  · unfold Cr
    rw [setCell_far _ _ _ n3.symm]
    exact hc
  · intro j q hq
    rcases oth j q hq with ⟨_, rfl⟩ | ⟨hj, hq'⟩
    · exact hp.kept (fun k hk => setCell_far _ _ _ (fun e => hpP (by rw [hk, e])))
    · refine (h.parts j q hq').kept (fun k hk => ?_)
      rw [setCell_far _ _ _ (fun e => (h.neP hq').2.1 (by rw [hk, e])), kept k ((h.parts j q hq').own_lt hk).2.1 ?_ (fun e => (h.neP hq').2.2 (by rw [hk, e]))]
      intro e
      rcases h.apart j i q p hj hq' hi with h1 | h1
      · rw [hk] at h1; cases h1
      · exact h1 (by rw [hk, e])
  · intro a b q r hab hq hr
    have key : ∀ (j : Nat) q, j ≠ i → ps[j]? = some q → q.own = none ∨ q.own ≠ p'.own := by
      intro j q hj hq
      cases hqo : q.own with
      | none => exact .inl rfl
      | some k =>
        right
        intro e
        rcases ho k e.symm with h1 | h1
        · rcases h.apart j i q p hj hq hi with h2 | h2
          · rw [hqo] at h2; cases h2
          · exact h2 (by rw [hqo, h1])
        · have := ((h.parts j q hq).own_lt hqo).2.1; omega
    rcases oth a q hq with ⟨rfl, rfl⟩ | ⟨ha, hq'⟩
    · rcases oth b r hr with ⟨rfl, _⟩ | ⟨hb, hr'⟩
      · exact absurd rfl hab
      · rcases key b r hb hr' with h1 | h1
        · cases hqo : q.own with
          | none => exact .inl rfl
          | some k => right; rw [h1]; intro e; cases e
        · exact .inr (fun e => h1 e.symm)
    · rcases oth b r hr with ⟨rfl, rfl⟩ | ⟨hb, hr'⟩
      · exact key a q ha hq'
      · exact h.apart a b q r hab hq' hr'
  · refine (hm.mono (fun k _ hk => ?_)).trans (Mod.setCell _ _ _ (.inr (.inl rfl)))
    rcases hk with hk | rfl
    · exact .inr (.inr (.inr ⟨p, List.mem_of_getElem? hi, hk⟩))
    · exact .inr (.inr (.inl rfl))

theorem foot_put {i : Nat} {p p' : PartM} (hi : ps[i]? = some p) {n : Nat} (ho : ∀ k, p'.own = some k → p.own = some k ∨ n ≤ k) : ∀ k, footS bS bP bC (ps.set i p') k → footS bS bP bC ps k ∨ n ≤ k := by
  rintro k (h | h | h | ⟨q, hq, hk⟩)
  · exact .inl (.inl h)
  · exact .inl (.inr (.inl h))
  · exact .inl (.inr (.inr (.inl h)))
  · rcases List.mem_or_eq_of_mem_set hq with h1 | rfl
    · exact .inl (.inr (.inr (.inr ⟨q, h1, hk⟩)))
    · rcases ho k hk with h1 | h1
      · exact .inl (.inr (.inr (.inr ⟨p, List.mem_of_getElem? hi, h1⟩)))
      · exact .inr h1
end
end Go.Proofs.Ytlhebbhpcepfhaa
