/-
  Mark, Feed, Write, Unmark of package input.
-/
import Derived.Test.YtlhebbhpcepfhaaPh
namespace Go.Proofs.Ytlhebbhpcepfhaa
open Go.RowKit

theorem Try.info28 : (Try.prog.info? 28).map (fun i => (i.zero, i.size, i.bytes)) = some (some (.slice none 0 0), 1, 24) := by kernel_rfl

section
variable {w w1 : World} {base bS bP pcap bC : Nat} {ps : List PartM} {cr ended dropped : Bool}

theorem StrAt.push (h : StrAt w base bS bP pcap bC ps cr ended dropped) {g cap : Nat} {pa : Option Addr} (hm : Mod (fun k => k = bP) w w1) (hrow : w1.ownsRow base 28 1 (.slice (some ⟨g, 0, none⟩) (ps.length + 1) cap) (ps.length + 1) (ps.map PartM.val ++ [.slice pa 0 0])) (hfew : ps.length ≤ 21) :
    StrAt (w1.setCell ⟨bS, 0, none⟩ (.slice (some ⟨g, 0, none⟩) (ps.length + 1) cap)) base bS g cap bC (ps ++ [⟨pa, 0, []⟩]) cr ended dropped ∧ Mod (fun k => k = bS ∨ k = bP) w (w1.setCell ⟨bS, 0, none⟩ (.slice (some ⟨g, 0, none⟩) (ps.length + 1) cap)) := by
  have hl : (ps ++ [(⟨pa, 0, []⟩ : PartM)]).length = ps.length + 1 := by simp
  have hm2 : (ps ++ [(⟨pa, 0, []⟩ : PartM)]).map PartM.val = ps.map PartM.val ++ [.slice pa 0 0] := by simp [PartM.val]
  have old : ∀ (i : Nat) p, (ps ++ [(⟨pa, 0, []⟩ : PartM)])[i]? = some p → (ps[i]? = some p) ∨ (i = ps.length ∧ p = ⟨pa, 0, []⟩) := by
    intro i p hi
    by_cases e : i < ps.length
    · rw [List.getElem?_append_left e] at hi; exact .inl hi
    · rw [List.getElem?_append_right (by omega)] at hi
      have := (List.getElem?_eq_some_iff.1 hi).1
      simp at this
      obtain rfl : i = ps.length := by omega
      simp at hi
      exact .inr ⟨rfl, hi.symm⟩
  have := h.setRow (qs := ps ++ [⟨pa, 0, []⟩]) (g := g) (cap := cap) hm (by rw [hl, hm2]; exact hrow) (fun i p hi => by
      rcases old i p hi with h1 | ⟨_, rfl⟩
      · exact (h.parts i p h1).mod hm (fun k hk e => (h.neP h1).2.1 (by rw [hk, e]))
      · exact PartAt.nil _ _ _)
    (fun i j p q hij hi hj => by
      rcases old i p hi with h1 | ⟨_, rfl⟩
      · rcases old j q hj with h2 | ⟨_, rfl⟩
        · exact h.apart i j p q hij h1 h2
        · cases hp : p.own with
          | none => exact .inl rfl
          | some k => exact .inr (by simp [PartM.own])
      · exact .inl (by simp [PartM.own])) (by simp) (by rw [hl]; omega)
  rw [hl] at this
  exact this

set_option maxHeartbeats 1000000 in
theorem mark_at (h : StrAt w base bS bP pcap bC ps cr ended dropped) (hfew : ps.length ≤ 21) {p : PartM} (hp : ps[ps.length - 1]? = some p) : Calls Try.prog 20 #[.pointer (some ⟨bS, 0, none⟩)] w fun e w' =>
    e = .returned (.int .i64 0) ∧ ∃ g cap pa, StrAt w' base bS g cap bC (ps ++ [⟨pa, 0, []⟩]) cr ended dropped ∧ Mod (fun k => k = bS ∨ k = bP) w w' ∧ (g = bP ∨ w.heap.size ≤ g) := by
  obtain ⟨h0, h1, h2, h3, h4⟩ := h.cells
  have H : Hid (∀ n, StrAt (w.drewN n) base bS bP pcap bC ps cr ended dropped) := hide (fun n => h.below (below_dw w n))
  have H0 := hide h
  have HR : Hid (∀ n o, ((w.drewN n).alloc o).ownsRow base 28 1 (.slice (some ⟨bP, 0, none⟩) ps.length pcap) ps.length (ps.map PartM.val)) := hide (fun n o => ownsRow_kept h.row (fun k hk => by simp [Value.ownBlock] at hk; subst hk; exact ((below_dw w n).alloc (Nat.le_refl _) o).block _ h.lt.2.1))
  have hc := (h.cellP hp).1
  have hpos : (0 : Int) < (ps.length : Int) := by have := h.pos; omega
  have hf : (ps.length : Int) ≤ 21 := by omega
  have hi : ((ps.length : Int) - 1).toNat = ps.length - 1 := by omega
  have h9 : ¬ ((ps.length : Int) - 1 < 0) := by omega
  have h8 : (ps.length : Int) - 1 < (ps.length : Int) := by omega
  have h7 : ¬ (20 : Int) < (ps.length : Int) - 1 := by omega
  have hf0 := h4 0
  have hlt := h.lt.1
  have hne := h.ne.1
  obtain ⟨i0, hi0, hz0, hz1, hz2⟩ := info_parts Try.info28
  obtain ⟨pa, pc, xs⟩ := p
  unfold PartM.val at hc
  simp only at hc
  have HF := hide hfew
  have HB := hide (show base ≤ w.heap.size from Nat.le_trans h.lo.1 (Nat.le_of_lt h.lt.1))
  clear h h4 hp hfew
  go_enter Try.func20, Try.ntmps20
  go_wp2_with (first
    | (go_at_call 35; go_must (refine (made_any (unhide H0)).mono ?_); rintro e w' ⟨rfl, rfl⟩)
    | (go_at_call 13; go_must (refine (marks_any (unhide H0)).mono ?_); rintro e w' ⟨rfl, rfl⟩))
  go_quiet ((go_at_call 36; exact quietC (last_any ((unhide H) _))))
  go_wp2_with (at_builtin; go_must (refine wpList_append_lies _ (by rfl) _ _ 45 (by rfl) base 28 i0 _ 1 24 Try.underlying45 hi0 hz0 hz1 hz2 rfl (by omega) (.slice (some ⟨bP, 0, none⟩) ps.length pcap) ps.length (ps.map PartM.val) (by rfl) (by exact (unhide HR) _ _) ⟨w.heap.size, 0, none⟩ 1 1 [.slice pa 0 0] (by rfl) (by rfl) (by exact World.news_of_block (heap_alloc_new (w.drewN nq) _)) (by simp [Value.oneCell']) (by omega) (by unfold maxLen; omega) (by omega) (by simp; have := unhide HB; omega) (w.heap.size + 1) (by simp) ?_); intro g cap w1 hown1 hgrow hat hl1; have HM := hide (show Mod (fun k => k = bP) w w1 from ((Mod.of_below ((below_dw w nq).alloc (Nat.le_refl _) _)).trans (Mod.grown hgrow (fun k hk => (Option.some.inj hk).symm)))); have hc1 : w1.cell? ⟨bS, 0, none⟩ = some (.slice (some ⟨bP, 0, none⟩) ps.length pcap) := (World.cell?_of_block ((unhide HM).block bS hlt (fun e => hne e))).trans h0; have hfz1 : w1.frozen? ⟨bS, 0, none⟩ = false := (World.frozen?_of_block ((unhide HM).block bS hlt (fun e => hne e))).trans hf0; have HO := hide hown1; have HA := hide hat; clear hown1 hgrow hat hl1)
  go_ret
  have R := (unhide H0).push (unhide HM) (unhide HO) (unhide HF)
  refine ⟨rfl, g, cap, pa, R.1, R.2, ?_⟩
  rcases unhide HA with e | e
  · exact .inl (Option.some.inj e).symm
  · exact .inr (by omega)
end
end Go.Proofs.Ytlhebbhpcepfhaa
