/-
  Write of package input.
-/
import Derived.Test.YtlhebbhpcepfhaaPi
namespace Go.Proofs.Ytlhebbhpcepfhaa
open Go.RowKit

theorem lenP_mem2 {ps : List PartM} {i : Nat} {p : PartM} (hp : ps[i]? = some p) : p.xs.length ≤ lenP ps := by
  have h1 := lenP_take ps i hp
  have h2 := lenP_le ps (i + 1)
  omega

section
variable {w w1 : World} {base bS bP pcap bC : Nat} {ps : List PartM} {cr ended dropped : Bool}

theorem write_none (h : StrAt w base bS bP pcap bC ps cr ended dropped) (hn : ps.length = 1) (a : Option Addr) (n c : Nat) : Calls Try.prog 21 #[.pointer (some ⟨bS, 0, none⟩), .slice a n c] w fun e w' => e = .returned (.int .i64 5) ∧ w = w' := by
  obtain ⟨h0, h1, h2, h3, h4⟩ := h.cells
  have H0 := hide h
  have h9 : ((ps.length : Int) - 1 == 0) = true := by simp; omega
  clear h h4 hn
  go_enter Try.func21, Try.ntmps21
  go_wp2_with (first
    | (go_at_call 35; go_must (refine (made_any (unhide H0)).mono ?_); rintro e w' ⟨rfl, rfl⟩)
    | (go_at_call 13; go_must (refine (marks_any (unhide H0)).mono ?_); rintro e w' ⟨rfl, rfl⟩))
  go_ret
  exact ⟨rfl, rfl⟩
theorem write_full (h : StrAt w base bS bP pcap bC ps cr ended dropped) (hn : 1 < ps.length) (hl : lenP ps ≤ 1048576) (a : Option Addr) (n c : Nat) (hf : ¬ n + lenP ps ≤ 1048576) : Calls Try.prog 21 #[.pointer (some ⟨bS, 0, none⟩), .slice a n c] w fun e w' => e = .returned (.int .i64 9) ∧ w = w' := by
  obtain ⟨h0, h1, h2, h3, h4⟩ := h.cells
  have H0 := hide h
  have HR := hide (room_any h hl a n c)
  rw [decide_eq_false hf] at HR
  have h9 : ((ps.length : Int) - 1 == 0) = false := by simp; omega
  clear h h4 hf hl hn
  go_enter Try.func21, Try.ntmps21
  go_wp2_with (first
    | (go_at_call 35; go_must (refine (made_any (unhide H0)).mono ?_); rintro e w' ⟨rfl, rfl⟩)
    | (go_at_call 13; go_must (refine (marks_any (unhide H0)).mono ?_); rintro e w' ⟨rfl, rfl⟩)
    | (go_at_call 37; go_must (refine (unhide HR).mono ?_); rintro e w' ⟨rfl, rfl⟩))
  go_ret
  exact ⟨rfl, rfl⟩

/-- What is written into a part; the memory of its line ends is new. -/
def Wrote (w w' : World) (base bC : Nat) (p p' : PartM) (cr : Bool) (l : List Int) : Prop :=
  PartAt w' base p' ∧ p'.xs = p.xs ++ (endsM false l).1 ∧ Cr w' bC cr ∧ Mod (fun k => p.own = some k) w w' ∧ ∀ k, p'.own = some k → p.own = some k ∨ w.heap.size ≤ k

theorem last_n {n : Nat} (h : StrAt w base bS bP pcap bC ps cr ended dropped) (hn : ps.length = n + 1) : Calls Try.prog 36 #[.pointer (some ⟨bS, 0, none⟩)] w fun e w' => e = .returned (.int .i64 (n : Int)) ∧ w = w' := by
  have := last_any h
  rw [show ((ps.length : Int) - 1) = (n : Int) by omega] at this
  exact this
theorem marks_n {n : Nat} (h : StrAt w base bS bP pcap bC ps cr ended dropped) (hn : ps.length = n + 1) : Calls Try.prog 13 #[.pointer (some ⟨bS, 0, none⟩)] w fun e w' => e = .returned (.int .i64 (n : Int)) ∧ w = w' := by
  have := marks_any h
  rw [show ((ps.length : Int) - 1) = (n : Int) by omega] at this
  exact this

set_option maxHeartbeats 2000000 in
theorem write_fits {n : Nat} (h : StrAt w base bS bP pcap bC ps cr ended dropped) (hn : ps.length = n + 1) (hn0 : 0 < n) (hl : lenP ps ≤ 1048576) (a : Option Addr) (l : List Int) (c : Nat) (hr : RunesIn w a l) (hF : ∀ b off, l ≠ [] → a = some ⟨b, off, none⟩ → ¬ footS bS bP bC ps b) (hf : l.length + lenP ps ≤ 1048576) {p : PartM} (hp : ps[n]? = some p) :
    Calls Try.prog 21 #[.pointer (some ⟨bS, 0, none⟩), .slice a l.length c] w fun e w' => e = .returned (.int .i64 0) ∧ ∃ p' w1, w' = w1.setCell ⟨bP, n, none⟩ p'.val ∧ Wrote w w1 base bC p p' cr l := by
  obtain ⟨h0, h1, h2, h3, h4⟩ := h.cells
  have H35 := hide (made_any h)
  have H13 := hide (marks_n h hn)
  have H36 := hide (last_n h hn)
  have HR := hide (room_any h hl a l.length c)
  rw [decide_eq_true hf] at HR
  obtain ⟨hc, hfz⟩ := h.cellP hp
  have h9 : ((n : Int) == 0) = false := by simp; omega
  have hpl : p.xs.length ≤ lenP ps := lenP_mem2 hp
  have hlt := h.lt
  have hne := h.ne
  have hnp := h.neP hp
  have HA : Hid (Calls Try.prog 38 #[p.val, .slice a l.length c, .func (.func 41) #[] #[.pointer (some ⟨w.heap.size, 0, none⟩)]] (w.alloc (.cells #[.bool false] 4)).drew fun e w' => ∃ p', e = .returned p'.val ∧ Wrote w w' base bC p p' cr l ∧ w'.cell? ⟨bS, 0, none⟩ = some (.slice (some ⟨bP, 0, none⟩) ps.length pcap) ∧ w'.cell? ⟨bP, n, none⟩ = some p.val ∧ w'.frozen? ⟨bP, n, none⟩ = false) := hide (by
    have B1 : Below w.heap.size w (w.alloc (.cells #[.bool false] 4)).drew := ((Below.refl _ _).alloc (Nat.le_refl _) _).drew
    refine (add_any (bC := w.heap.size) (cr := false) ((h.parts _ p hp).below B1) (Nat.le_trans (Nat.le_trans h.lo.1 (Nat.le_of_lt hlt.1)) B1.size) (heap_alloc_new w _) a l c (hr.below B1) (fun b off hln ha => ⟨fun e => hF b off hln ha (.inr (.inr (.inr ⟨p, List.mem_of_getElem? hp, e⟩))), fun e => (by
      obtain ⟨b', off', ha', hc'⟩ := hr 0 _ (List.getElem?_eq_getElem (List.length_pos_iff.2 hln))
      have hbl := World.block_lt_of_cell? w _ hc'
      rw [ha] at ha'
      cases ha'
      simp at hbl
      omega)⟩) (by omega)).mono ?_
    rintro e w' ⟨p', rfl, g1, g2, g3, g4, g5⟩
    have g4' : Mod (fun k => p.own = some k) w w' := (Mod.of_below B1).then g4 (fun k hk => hk.elim .inl (fun e => .inr (by omega)))
    have kS := g4'.block bS hlt.1 hnp.1
    have kP := g4'.block bP hlt.2.1 hnp.2.1
    have kC := g4'.block bC hlt.2.2 hnp.2.2
    exact ⟨p', rfl, ⟨g1, g2, kC.trans h.mem, g4', fun k hk => (g5 k hk).imp id (fun h => Nat.le_trans B1.size h)⟩, (World.cell?_of_block kS).trans h0, (World.cell?_of_block kP).trans hc, (World.frozen?_of_block kP).trans hfz⟩)
  have hltS := hlt.1
  have hltP := hlt.2.1
  have hneS : bS ≠ bP := hne.1
  have hneP : bP ≠ bS := fun e => hneS e.symm
  have hnb : (n : Int) ≤ 21 := by have := h.few; omega
  have hnN : (n : Int) < (ps.length : Int) := by omega
  have hn9 : (0 : Int) ≤ (n : Int) := by omega
  clear h h4 hf hl hp hr hF hlt hne hnp hpl hn hn0
  go_enter Try.func21, Try.ntmps21
  go_wp2_with (first
    | (go_at_call 35; go_must (refine (unhide H35).mono ?_); rintro e w' ⟨rfl, rfl⟩)
    | (go_at_call 13; go_must (refine (unhide H13).mono ?_); rintro e w' ⟨rfl, rfl⟩)
    | (go_at_call 37; go_must (refine (unhide HR).mono ?_); rintro e w' ⟨rfl, rfl⟩)
    | (go_at_call 36; go_must (refine (unhide H36).mono ?_); rintro e w' ⟨rfl, rfl⟩))
  go_region_with (first
    | (go_at_call 26; go_must (refine (lineEnds_any _).mono ?_); rintro e w1 ⟨rfl, rfl⟩)
    | (go_at_call 38; go_must (refine (unhide HA).mono ?_); rintro e w1 ⟨⟨a', c', x'⟩, rfl, hA, hc0, hcP, hfP⟩; simp only [PartM.val_mk]; have HA2 := hide hA; clear hA))
  all_goals (try go_wp2)
  all_goals go_ret
  all_goals exact ⟨rfl, ⟨a', c', x'⟩, w1, rfl, unhide HA2⟩
end
end Go.Proofs.Ytlhebbhpcepfhaa
