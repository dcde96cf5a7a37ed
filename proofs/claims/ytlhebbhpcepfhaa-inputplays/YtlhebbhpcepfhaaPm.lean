/-
  Mark, Feed, Write, Unmark of package input, the places hidden.
-/
import Derived.Test.YtlhebbhpcepfhaaPj
import Derived.Test.YtlhebbhpcepfhaaPk
import Derived.Test.YtlhebbhpcepfhaaPl
namespace Go.Proofs.Ytlhebbhpcepfhaa
open Go.RowKit

def markM (m : StrM) : Int × StrM := if m.parts.length ≤ 21 then (0, { m with parts := m.parts ++ [[]] }) else (9, m)
def feedM (m : StrM) (l : List Int) : Int × StrM :=
  if m.ended then (5, m) else if l.length + m.len ≤ 1048576 then (0, { m with parts := m.parts.set 0 ((m.parts[0]?.getD []) ++ (endsM m.cr l).1), cr := (endsM m.cr l).2 }) else (9, m)
def writeM (m : StrM) (l : List Int) : Int × StrM :=
  if m.parts.length = 1 then (5, m) else if l.length + m.len ≤ 1048576 then (0, { m with parts := m.parts.set (m.parts.length - 1) (m.last ++ (endsM false l).1) }) else (9, m)
def unmarkM (m : StrM) : Int × StrM :=
  if m.parts.length = 1 then (5, m) else (0, { m with parts := (m.parts.set (m.parts.length - 2) (m.last ++ (m.parts[m.parts.length - 2]?.getD []))).take (m.parts.length - 1) })

section
variable {w : World} {base bS : Nat} {m : StrM} {F : Nat → Prop}

theorem mark_s (h : StrS w base bS m F) : Calls Try.prog 20 #[.pointer (some ⟨bS, 0, none⟩)] w fun e w' => e = .returned (.int .i64 (markM m).1) ∧ UpdS F w w' base bS (markM m).2 := by
  obtain ⟨bP, pcap, bC, ps, h, e, l, hF⟩ := h
  have hlen : m.parts.length = ps.length := by rw [← e, List.length_map]
  unfold markM
  by_cases hf : m.parts.length ≤ 21
  · rw [if_pos hf]
    obtain ⟨p, hp, _⟩ := last_part e h.pos
    refine (mark_at h (by omega) hp).mono ?_
    rintro e1 w' ⟨rfl, g, cap, pa, h1, h2, h3⟩
    refine ⟨rfl, footS bS g bC (ps ++ [⟨pa, 0, []⟩]), ⟨g, cap, bC, ps ++ [⟨pa, 0, []⟩], h1, by simp [e], by simpa [StrM.len] using l, fun _ => Iff.rfl⟩, h2.mono (fun k _ hk => (hF k).2 (hk.elim .inl (fun h => .inr (.inl h)))), ?_⟩
    rintro k (rfl | rfl | rfl | ⟨q, hq, hk⟩)
    · exact .inl ((hF _).2 (.inl rfl))
    · exact h3.imp (fun e => (hF _).2 (.inr (.inl e))) id
    · exact .inl ((hF _).2 (.inr (.inr (.inl rfl))))
    · rw [List.mem_append] at hq
      rcases hq with hq | hq
      · exact .inl ((hF _).2 (.inr (.inr (.inr ⟨q, hq, hk⟩))))
      · simp at hq; subst hq; simp [PartM.own] at hk
  · rw [if_neg hf]
    have hS : StrS w base bS m F := ⟨bP, pcap, bC, ps, h, e, l, hF⟩
    have H35 := hide (made_s hS)
    have H13 := hide (marks_s hS)
    have h7 : (20 : Int) < (m.parts.length : Int) - 1 := by omega
    have HS := hide hS
    clear h e hF hS hlen hf l
    go_enter Try.func20, Try.ntmps20
    go_wp2_with (first
      | (go_at_call 35; go_must (refine (unhide H35).mono ?_); rintro e w' ⟨rfl, rfl⟩)
      | (go_at_call 13; go_must (refine (unhide H13).mono ?_); rintro e w' ⟨rfl, rfl⟩))
    go_ret
    exact ⟨rfl, (unhide HS).upd (Below.refl _ _)⟩

theorem feed_s (h : StrS w base bS m F) (a : Option Addr) (l : List Int) (c : Nat) (hr : RunesIn w a l) (hd : ∀ b off, l ≠ [] → a = some ⟨b, off, none⟩ → ¬ F b) :
    Calls Try.prog 16 #[.pointer (some ⟨bS, 0, none⟩), .slice a l.length c] w fun e w' => e = .returned (.int .i64 (feedM m l).1) ∧ UpdS F w w' base bS (feedM m l).2 := by
  have hS := h
  obtain ⟨bP, pcap, bC, ps, h, e, hl, hF⟩ := h
  have hle := lenP_eq e
  unfold feedM
  cases hen : m.ended with
  | true =>
    rw [hen] at h
    refine (feed_ended h a l.length c).mono ?_
    rintro e1 w' ⟨rfl, rfl⟩
    exact ⟨rfl, hS.upd (Below.refl _ _)⟩
  | false =>
    have h' := h
    rw [hen] at h'
    simp only [Bool.false_eq_true, if_false]
    by_cases hf : l.length + m.len ≤ 1048576
    · rw [if_pos hf]
      have hpos := h.pos
      obtain ⟨p, hp⟩ : ∃ p, ps[0]? = some p := ⟨_, List.getElem?_eq_getElem hpos⟩
      have hpx : m.parts[0]? = some p.xs := by rw [← e, List.getElem?_map, hp]; rfl
      refine (feed_fits h' (by omega) a l c hr (fun b off hln ha hk => hd b off hln ha ((hF b).2 hk)) (by omega) hp).mono ?_
      rintro e1 w' ⟨rfl, p', w1, rfl, g1, g2, g3, g4, g5⟩
      refine ⟨rfl, StrS.put h e hF hp g4 g1 g5 g3 (by rw [hpx, g2]; rfl) ⟨rfl, hen.symm ▸ rfl, rfl⟩ ?_⟩
      have := set_sum (y := p.xs ++ (endsM m.cr l).1) hpx
      have hel := endsM_len m.cr l
      rw [List.length_append] at this
      unfold StrM.len at hf ⊢
      simp only [hpx, Option.getD_some]
      omega
    · rw [if_neg hf]
      refine (feed_full h' (by omega) a l.length c (by omega)).mono ?_
      rintro e1 w' ⟨rfl, rfl⟩
      exact ⟨rfl, hS.upd (Below.refl _ _)⟩

theorem write_s (h : StrS w base bS m F) (a : Option Addr) (l : List Int) (c : Nat) (hr : RunesIn w a l) (hd : ∀ b off, l ≠ [] → a = some ⟨b, off, none⟩ → ¬ F b) :
    Calls Try.prog 21 #[.pointer (some ⟨bS, 0, none⟩), .slice a l.length c] w fun e w' => e = .returned (.int .i64 (writeM m l).1) ∧ UpdS F w w' base bS (writeM m l).2 := by
  have hS := h
  obtain ⟨bP, pcap, bC, ps, h, e, hl, hF⟩ := h
  have hle := lenP_eq e
  have hlen : m.parts.length = ps.length := by rw [← e, List.length_map]
  have hpos := h.pos
  unfold writeM
  by_cases h1 : m.parts.length = 1
  · rw [if_pos h1]
    refine (write_none h (by omega) a l.length c).mono ?_
    rintro e1 w' ⟨rfl, rfl⟩
    exact ⟨rfl, hS.upd (Below.refl _ _)⟩
  · rw [if_neg h1]
    by_cases hf : l.length + m.len ≤ 1048576
    · rw [if_pos hf]
      obtain ⟨p, hp, hpl⟩ := last_part e hpos
      have hpx : m.parts[m.parts.length - 1]? = some p.xs := by rw [hlen, ← e, List.getElem?_map, hp]; rfl
      refine (write_fits (n := ps.length - 1) h (by omega) (by omega) (by omega) a l c hr (fun b off hln ha hk => hd b off hln ha ((hF b).2 hk)) (by omega) hp).mono ?_
      rintro e1 w' ⟨rfl, p', w1, rfl, g1, g2, g3, g4, g5⟩
      refine ⟨rfl, StrS.put h e hF hp (g4.mono (fun _ _ h => .inl h)) g1 g5 g3 (by rw [g2, hpl, hlen]) ⟨rfl, rfl, rfl⟩ ?_⟩
      have := set_sum (y := p.xs ++ (endsM false l).1) hpx
      have hel := endsM_len false l
      rw [List.length_append] at this
      unfold StrM.len at hf ⊢
      simp only [← hpl]
      omega
    · rw [if_neg hf]
      refine (write_full h (by omega) (by omega) a l.length c (by omega)).mono ?_
      rintro e1 w' ⟨rfl, rfl⟩
      exact ⟨rfl, hS.upd (Below.refl _ _)⟩

theorem row_cut {w : World} {base g n cap : Nat} {e : TypeId} {xs : List Value} (h : w.ownsRow base e 1 (.slice (some ⟨g, 0, none⟩) n cap) n xs) (k : Nat) (hk : k ≤ n) : w.ownsRow base e 1 (.slice (some ⟨g, 0, none⟩) k cap) k (xs.take k) := by
  have hl := h.1
  rcases h.2 with ⟨h', _⟩ | ⟨g', cap', cur, h', hb, hg, hn, hc, hs, ht⟩
  · simp at h'
  · simp only [Value.slice.injEq, Option.some.injEq, Addr.mk.injEq, and_true, true_and] at h'
    obtain ⟨rfl, rfl⟩ := h'
    refine ⟨by rw [List.length_take]; omega, .inr ⟨g, cap, cur, rfl, hb, hg, by omega, hc, hs, ?_⟩⟩
    rw [← ht, List.take_take]
    congr 1
    omega

theorem StrAt.cut {w : World} {base bS bP pcap bC : Nat} {ps : List PartM} {cr ended dropped : Bool} (h : StrAt w base bS bP pcap bC ps cr ended dropped) (k : Nat) (hk : k ≤ ps.length) (h0 : 0 < k) :
    StrAt (w.setCell ⟨bS, 0, none⟩ (.slice (some ⟨bP, 0, none⟩) k pcap)) base bS bP pcap bC (ps.take k) cr ended dropped := by
  have hl : (ps.take k).length = k := by rw [List.length_take]; omega
  have old : ∀ (i : Nat) p, (ps.take k)[i]? = some p → ps[i]? = some p := by
    intro i p hi
    rw [List.getElem?_take] at hi
    split at hi
    · exact hi
    · cases hi
  have := h.setRow (w1 := w) (g := bP) (cap := pcap) (qs := ps.take k) (Mod.refl _ _) (by rw [hl, List.map_take]; exact row_cut h.row k hk) (fun i p hi => h.parts i p (old i p hi))
    (fun i j p q hij hi hj => h.apart i j p q hij (old i p hi) (old j q hj)) (by omega) (by have := h.few; omega)
  rw [hl] at this
  exact this.1

theorem unmark_s (h : StrS w base bS m F) : Calls Try.prog 23 #[.pointer (some ⟨bS, 0, none⟩)] w fun e w' => e = .returned (.int .i64 (unmarkM m).1) ∧ UpdS F w w' base bS (unmarkM m).2 := by
  have hS := h
  obtain ⟨bP, pcap, bC, ps, h, e, hl, hF⟩ := h
  have hle := lenP_eq e
  have hlen : m.parts.length = ps.length := by rw [← e, List.length_map]
  have hpos := h.pos
  unfold unmarkM
  by_cases h1 : m.parts.length = 1
  · rw [if_pos h1]
    refine (unmark_none h (by omega)).mono ?_
    rintro e1 w' ⟨rfl, rfl⟩
    exact ⟨rfl, hS.upd (Below.refl _ _)⟩
  · rw [if_neg h1]
    obtain ⟨j, hj⟩ : ∃ j, ps.length = j + 2 := ⟨ps.length - 2, by omega⟩
    obtain ⟨p, hp⟩ : ∃ p, ps[j + 1]? = some p := ⟨_, List.getElem?_eq_getElem (by omega)⟩
    obtain ⟨q, hq⟩ : ∃ q, ps[j]? = some q := ⟨_, List.getElem?_eq_getElem (by omega)⟩
    have hpx : m.parts[j + 1]? = some p.xs := by rw [← e, List.getElem?_map, hp]; rfl
    have hqx : m.parts[j]? = some q.xs := by rw [← e, List.getElem?_map, hq]; rfl
    have hml : m.last = p.xs := by unfold StrM.last; rw [hlen, hj, show j + 2 - 1 = j + 1 by omega, hpx]; rfl
    have hsum := set_sum (y := []) hpx
    have hsum2 := set_sum (l := m.parts.set (j + 1) []) (i := j) (x := q.xs) (y := p.xs ++ q.xs) (by rw [List.getElem?_set_ne (by omega)]; exact hqx)
    have hpq : p.xs.length + q.xs.length ≤ 1048576 := by
      have a1 := lenP_take ps (j + 1) hp
      have a2 := lenP_take ps j hq
      have a3 := lenP_le ps (j + 1 + 1)
      omega
    refine (unmark_at h hj hp hq hpq).mono ?_
    rintro e1 w' ⟨rfl, r, w1, rfl, g1, g2, g3, g4⟩
    have A1 := h.put hq (Mod.of_below g3) g1 g4 (cr' := m.cr) (by unfold Cr; rw [g3.block bC h.lt.2.2]; exact h.mem)
    have hp2 : (ps.set j r)[j + 1]? = some p := by rw [List.getElem?_set_ne (by omega)]; exact hp
    have A2 := A1.1.put hp2 (p' := ⟨none, 0, []⟩) (Mod.refl _ _) (PartAt.nil _ _ _) (fun k hk => by simp [PartM.own] at hk) A1.1.mem
    have A3 := A2.1.cut (j + 1) (by simp; omega) (by omega)
    have ht : ((ps.set j r).set (j + 1) ⟨none, 0, []⟩).take (j + 1) = (ps.set j r).take (j + 1) := by
      apply List.ext_getElem?
      intro i
      rw [List.getElem?_take, List.getElem?_take]
      split
      · rw [List.getElem?_set_ne (by omega)]
      · rfl
    rw [ht] at A3
    have hfoot : ∀ k, footS bS bP bC ((ps.set j r).take (j + 1)) k → F k ∨ w.heap.size ≤ k := by
      intro k hk
      have : footS bS bP bC (ps.set j r) k := by
        rcases hk with hk | hk | hk | ⟨q, hq, hk⟩
        · exact .inl hk
        · exact .inr (.inl hk)
        · exact .inr (.inr (.inl hk))
        · exact .inr (.inr (.inr ⟨q, List.mem_of_mem_take hq, hk⟩))
      exact (foot_put hq g4 k this).imp (hF k).2 id
    refine ⟨rfl, footS bS bP bC ((ps.set j r).take (j + 1)), ⟨bP, pcap, bC, _, A3, ?_, ?_, fun _ => Iff.rfl⟩, ?_, hfoot⟩
    · rw [List.map_take, List.map_set, e, g2, hml, hlen, hj, show j + 2 - 2 = j by omega, hqx, show j + 2 - 1 = j + 1 by omega]
      rfl
    · show StrM.len _ ≤ _
      unfold StrM.len at hl ⊢
      simp only [hlen, hj, show j + 2 - 2 = j by omega, show j + 2 - 1 = j + 1 by omega, hqx, hml, Option.getD_some]
      have h9 : (m.parts.set j (p.xs ++ q.xs)).take (j + 1) = ((m.parts.set (j + 1) []).set j (p.xs ++ q.xs)).take (j + 1) := by
        apply List.ext_getElem?
        intro i
        rw [List.getElem?_take, List.getElem?_take]
        split
        · by_cases hij : j = i
          · subst hij; rw [List.getElem?_set_self (by omega), List.getElem?_set_self (by simp; omega)]
          · rw [List.getElem?_set_ne hij, List.getElem?_set_ne hij, List.getElem?_set_ne (by omega)]
        · rfl
      rw [h9]
      have h8 : ∀ (L : List (List Int)) n, ((L.take n).map List.length).sum ≤ (L.map List.length).sum := by
        intro L n
        have := congrArg (fun l => (l.map List.length).sum) (List.take_append_drop n L)
        simp only [List.map_append, List.sum_append] at this
        omega
      have := h8 ((m.parts.set (j + 1) []).set j (p.xs ++ q.xs)) (j + 1)
      rw [List.length_append] at hsum2
      simp only [List.length_nil, Nat.add_zero] at hsum
      omega
    · have M1 : Mod F w _ := A1.2.mono (fun k _ hk => (hF k).2 hk)
      have fP : F bP := (hF bP).2 (.inr (.inl rfl))
      have fS : F bS := (hF bS).2 (.inl rfl)
      exact (M1.trans (Mod.setCell _ _ _ fP)).trans (Mod.setCell _ _ _ fS)
end
end Go.Proofs.Ytlhebbhpcepfhaa
