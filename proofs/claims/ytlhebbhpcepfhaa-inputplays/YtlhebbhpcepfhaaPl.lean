/-
  Unmark of package input.
-/
import Derived.Test.YtlhebbhpcepfhaaPi
namespace Go.Proofs.Ytlhebbhpcepfhaa
open Go.RowKit

section
variable {w w1 : World} {base bS bP pcap bC : Nat} {ps : List PartM} {cr ended dropped : Bool}

theorem unmark_none (h : StrAt w base bS bP pcap bC ps cr ended dropped) (hn : ps.length = 1) : Calls Try.prog 23 #[.pointer (some ⟨bS, 0, none⟩)] w fun e w' => e = .returned (.int .i64 5) ∧ w = w' := by
  obtain ⟨h0, h1, h2, h3, h4⟩ := h.cells
  have H0 := hide h
  have h9 : ((ps.length : Int) - 1 == 0) = true := by simp; omega
  clear h h4 hn
  go_enter Try.func23, Try.ntmps23
  go_wp2_with (first
    | (go_at_call 35; go_must (refine (made_any (unhide H0)).mono ?_); rintro e w' ⟨rfl, rfl⟩)
    | (go_at_call 13; go_must (refine (marks_any (unhide H0)).mono ?_); rintro e w' ⟨rfl, rfl⟩))
  go_ret
  exact ⟨rfl, rfl⟩

/-- Two parts are one. -/
def Joined (w w' : World) (base : Nat) (p q r : PartM) : Prop := PartAt w' base r ∧ r.xs = p.xs ++ q.xs ∧ Below w.heap.size w w' ∧ ∀ k, r.own = some k → q.own = some k ∨ w.heap.size ≤ k

set_option maxHeartbeats 4000000 in
theorem unmark_at {j : Nat} (h : StrAt w base bS bP pcap bC ps cr ended dropped) (hn : ps.length = j + 2) {p q : PartM} (hp : ps[j + 1]? = some p) (hq : ps[j]? = some q) (hpq : p.xs.length + q.xs.length ≤ 1048576) :
    Calls Try.prog 23 #[.pointer (some ⟨bS, 0, none⟩)] w fun e w' => e = .returned (.int .i64 0) ∧ ∃ r w1, w' = ((w1.setCell ⟨bP, j, none⟩ r.val).setCell ⟨bP, j + 1, none⟩ (.slice none 0 0)).setCell ⟨bS, 0, none⟩ (.slice (some ⟨bP, 0, none⟩) (j + 1) pcap) ∧ Joined w w1 base p q r := by
  obtain ⟨h0, h1, h2, h3, h4⟩ := h.cells
  have H35 := hide (made_any h)
  have e1 : ((ps.length : Int) - 1) = (j : Int) + 1 := by omega
  have H13 := hide (marks_any h)
  have H36 := hide (last_any h)
  rw [e1] at H13 H36
  obtain ⟨hc, hfz⟩ := h.cellP hp
  obtain ⟨hcq, hfq⟩ := h.cellP hq
  have h9 : ((j : Int) + 1 == 0) = false := by simp; omega
  have hlt := h.lt
  have hne := h.ne
  have hfS := h4 0
  have hpc : ps.length ≤ pcap := by obtain ⟨_, _, hpc, _, _⟩ := h.blockP; exact hpc
  have HJ : Hid (Calls Try.prog 40 #[p.val, q.val] w.drew fun e w' => ∃ r, e = .returned r.val ∧ Joined w w' base p q r ∧ w'.cell? ⟨bS, 0, none⟩ = some (.slice (some ⟨bP, 0, none⟩) ps.length pcap) ∧ w'.frozen? ⟨bS, 0, none⟩ = false ∧ w'.cell? ⟨bP, j, none⟩ = some q.val ∧ w'.frozen? ⟨bP, j, none⟩ = false ∧ w'.cell? ⟨bP, j + 1, none⟩ = some p.val ∧ w'.frozen? ⟨bP, j + 1, none⟩ = false ∧ bS < w'.heap.size ∧ bP < w'.heap.size) := hide (by
    have B1 : Below w.heap.size w w.drew := (Below.refl _ _).drew
    refine (join_any ((h.parts _ p hp).below B1) ((h.parts _ q hq).below B1) (Nat.le_trans h.lo.1 (Nat.le_of_lt hlt.1)) hpq).mono ?_
    rintro e w' ⟨r, rfl, g1, g2, g3, g4⟩
    have g3' : Below w.heap.size w w' := ⟨g3.os, g3.tape, g3.output, g3.size, g3.block⟩
    have kS := g3'.block bS hlt.1
    have kP := g3'.block bP hlt.2.1
    have hs := g3'.size
    exact ⟨r, rfl, ⟨g1, g2, g3', g4⟩, (World.cell?_of_block kS).trans h0, (World.frozen?_of_block kS).trans hfS, (World.cell?_of_block kP).trans hcq, (World.frozen?_of_block kP).trans hfq, (World.cell?_of_block kP).trans hc, (World.frozen?_of_block kP).trans hfz, by omega, by omega⟩)
  have hltS := hlt.1
  have hltP := hlt.2.1
  have hneS : bS ≠ bP := hne.1
  have hneP : bP ≠ bS := fun e => hneS e.symm
  obtain ⟨k, hk⟩ : ∃ k, k = j + 1 := ⟨_, rfl⟩
  have ek : (j : Int) + 1 = (k : Int) := by omega
  rw [ek] at H13 H36 h9
  rw [← hk] at hc hfz HJ
  have i1 : (0 : Int) ≤ (k : Int) := by omega
  have i2 : (k : Int) < (ps.length : Int) := by omega
  have i3 : (1 : Int) ≤ (k : Int) := by omega
  have i4 : (k : Int) - 1 < (ps.length : Int) := by omega
  have i5 : (k : Int) ≤ 21 := by have := h.few; omega
  have i6 : (k : Int) ≤ (pcap : Int) := by omega
  have i7 : IntKind.i64.wrap ((k : Int) - 1) = (k : Int) - 1 := by rw [IntKind.wrap_i64]; omega
  have i8 : ((k : Int) - 1).toNat = j := by omega
  have i9 : (0 : Int) ≤ (k : Int) - 1 := by omega
  have HK : Hid (k = j + 1) := hide hk
  have hjk : ¬ j = k := by omega
  have hkj : ¬ k = j := by omega
  clear h h4 hp hq hlt hne hn hpq e1 hpc hk ek
  go_enter Try.func23, Try.ntmps23
  go_wp2_with (first
    | (go_at_call 35; go_must (refine (unhide H35).mono ?_); rintro e w' ⟨rfl, rfl⟩)
    | (go_at_call 13; go_must (refine (unhide H13).mono ?_); rintro e w' ⟨rfl, rfl⟩)
    | (go_at_call 36; go_must (refine (unhide H36).mono ?_); rintro e w' ⟨rfl, rfl⟩))
  go_region_with (go_at_call 40; go_must (refine (unhide HJ).mono ?_); rintro e w1 ⟨⟨a', c', x'⟩, rfl, hJ, g1, g2, g3, g4, g5, g6, g7, g8⟩; simp only [PartM.val_mk]; have HJ2 := hide hJ; clear hJ)
  all_goals (try go_wp2)
  all_goals go_ret
  all_goals
    refine ⟨rfl, ⟨a', c', x'⟩, w1, ?_, unhide HJ2⟩
    rw [← unhide HK]
    rfl
end
end Go.Proofs.Ytlhebbhpcepfhaa
