/-
  Feed of package input.
-/
import Derived.Test.YtlhebbhpcepfhaaPi
import Derived.Deep.RegionHeld3
namespace Go.Proofs.Ytlhebbhpcepfhaa
open Go.RowKit

theorem lenP_mem {ps : List PartM} {i : Nat} {p : PartM} (hp : ps[i]? = some p) : p.xs.length ≤ lenP ps := by
  have h1 := lenP_take ps i hp
  have h2 := lenP_le ps (i + 1)
  omega

section
variable {w w1 : World} {base bS bP pcap bC : Nat} {ps : List PartM} {cr ended dropped : Bool}

theorem feed_ended (h : StrAt w base bS bP pcap bC ps cr true dropped) (a : Option Addr) (n c : Nat) : Calls Try.prog 16 #[.pointer (some ⟨bS, 0, none⟩), .slice a n c] w fun e w' => e = .returned (.int .i64 5) ∧ w = w' := by
  obtain ⟨h0, h1, h2, h3, h4⟩ := h.cells
  have H0 := hide h
  clear h h4
  go_enter Try.func16, Try.ntmps16
  go_wp2_with (go_at_call 35; go_must (refine (made_any (unhide H0)).mono ?_); rintro e w' ⟨rfl, rfl⟩)
  go_ret
  exact ⟨rfl, rfl⟩
theorem feed_full (h : StrAt w base bS bP pcap bC ps cr false dropped) (hl : lenP ps ≤ 1048576) (a : Option Addr) (n c : Nat) (hf : ¬ n + lenP ps ≤ 1048576) : Calls Try.prog 16 #[.pointer (some ⟨bS, 0, none⟩), .slice a n c] w fun e w' => e = .returned (.int .i64 9) ∧ w = w' := by
  obtain ⟨h0, h1, h2, h3, h4⟩ := h.cells
  have H0 := hide h
  have HR := hide (room_any h hl a n c)
  rw [decide_eq_false hf] at HR
  clear h h4 hf hl
  go_enter Try.func16, Try.ntmps16
  go_wp2_with (first
    | (go_at_call 35; go_must (refine (made_any (unhide H0)).mono ?_); rintro e w' ⟨rfl, rfl⟩)
    | (go_at_call 37; go_must (refine (unhide HR).mono ?_); rintro e w' ⟨rfl, rfl⟩))
  go_ret
  exact ⟨rfl, rfl⟩

/-- What is added to a part. -/
def Added (w w' : World) (base bC : Nat) (p p' : PartM) (cr : Bool) (l : List Int) : Prop :=
  PartAt w' base p' ∧ p'.xs = p.xs ++ (endsM cr l).1 ∧ Cr w' bC (endsM cr l).2 ∧ Mod (fun k => p.own = some k ∨ k = bC) w w' ∧ ∀ k, p'.own = some k → p.own = some k ∨ w.heap.size ≤ k

set_option maxHeartbeats 1000000 in
theorem feed_fits (h : StrAt w base bS bP pcap bC ps cr false dropped) (hl : lenP ps ≤ 1048576) (a : Option Addr) (l : List Int) (c : Nat) (hr : RunesIn w a l) (hF : ∀ b off, l ≠ [] → a = some ⟨b, off, none⟩ → ¬ footS bS bP bC ps b) (hf : l.length + lenP ps ≤ 1048576) {p : PartM} (hp : ps[0]? = some p) :
    Calls Try.prog 16 #[.pointer (some ⟨bS, 0, none⟩), .slice a l.length c] w fun e w' => e = .returned (.int .i64 0) ∧ ∃ p' w1, w' = w1.setCell ⟨bP, 0, none⟩ p'.val ∧ Added w w1 base bC p p' cr l := by
  obtain ⟨h0, h1, h2, h3, h4⟩ := h.cells
  have H0 := hide h
  have HR := hide (room_any h hl a l.length c)
  rw [decide_eq_true hf] at HR
  obtain ⟨hc, hfz⟩ := h.cellP hp
  have hpos : (0 : Int) < (ps.length : Int) := by have := h.pos; omega
  have hpl : p.xs.length ≤ lenP ps := lenP_mem hp
  have hlt := h.lt
  have hne := h.ne
  have hnp := h.neP hp
  have HA : Hid (Calls Try.prog 38 #[p.val, .slice a l.length c, .func (.func 41) #[] #[.pointer (some ⟨bC, 0, none⟩)]] w.drew fun e w' => ∃ p', e = .returned p'.val ∧ Added w w' base bC p p' cr l ∧ w'.cell? ⟨bS, 0, none⟩ = some (.slice (some ⟨bP, 0, none⟩) ps.length pcap) ∧ w'.cell? ⟨bP, 0, none⟩ = some p.val ∧ w'.frozen? ⟨bP, 0, none⟩ = false) := hide (by
    have B1 : Below w.heap.size w w.drew := (Below.refl _ _).drew
    refine (add_any ((h.parts 0 p hp).below B1) (Nat.le_trans h.lo.1 (Nat.le_of_lt hlt.1)) h.mem a l c (hr.below B1) (fun b off hln ha => ⟨fun e => hF b off hln ha (.inr (.inr (.inr ⟨p, List.mem_of_getElem? hp, e⟩))), fun e => hF b off hln ha (.inr (.inr (.inl e)))⟩) (by omega)).mono ?_
    rintro e w' ⟨p', rfl, g1, g2, g3, g4, g5⟩
    have g4' : Mod (fun k => p.own = some k ∨ k = bC) w w' := ⟨g4.os, g4.tape, g4.output, g4.size, g4.block⟩
    have kS := g4'.block bS hlt.1 (by rintro (e | e); exact hnp.1 e; exact hne.2.1 e)
    have kP := g4'.block bP hlt.2.1 (by rintro (e | e); exact hnp.2.1 e; exact hne.2.2 e)
    exact ⟨p', rfl, ⟨g1, g2, g3, g4', g5⟩, (World.cell?_of_block kS).trans h0, (World.cell?_of_block kP).trans hc, (World.frozen?_of_block kP).trans hfz⟩)
  clear h h4 hf hl hp hr hF hlt hne hnp hpl
  go_enter Try.func16, Try.ntmps16
  go_wp2_with (first
    | (go_at_call 35; go_must (refine (made_any (unhide H0)).mono ?_); rintro e w' ⟨rfl, rfl⟩)
    | (go_at_call 37; go_must (refine (unhide HR).mono ?_); rintro e w' ⟨rfl, rfl⟩))
  go_region_with (go_at_call 38; go_must (refine (unhide HA).mono ?_); rintro e w1 ⟨⟨a', c', x'⟩, rfl, hA, hc0, hcP, hfP⟩; simp only [PartM.val_mk]; have HA2 := hide hA; clear hA)
  all_goals (try go_wp2)
  all_goals go_ret
  all_goals exact ⟨rfl, ⟨a', c', x'⟩, w1, rfl, unhide HA2⟩
end
end Go.Proofs.Ytlhebbhpcepfhaa
