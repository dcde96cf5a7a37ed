/-
  The walk of InputPlays.
-/
import Derived.Test.YtlhebbhpcepfhaaRh
namespace Go.Proofs.Ytlhebbhpcepfhaa
open Go.RowKit

section
variable {w wx : World} {bS bW : Nat} {m : StrM}
theorem env_rnew {obs : List (Ob w.heap.size)} (h : Env w wx obs) : Calls Try.prog 10 #[] wx fun e w' => ∃ bW, e = .returned (.pointer (some ⟨bW, 0, none⟩)) ∧ Env w w' (obs ++ [refOb _ bW (refOf newM)]) := by
  refine (refNew_s wx w.heap.size h.bel.size).mono ?_
  rintro e w' ⟨rfl, h1, h2⟩
  exact ⟨_, rfl, h.add (o := refOb _ wx.heap.size (refOf newM)) h2 h1 (fun k hk => by omega)⟩
theorem ref_cells (h : Env w wx [strOb _ bS m, refOb _ bW (refOf m)]) : ∃ pa pc ga mc, wx.cell? ⟨bW, 0, none⟩ = some (.slice pa m.len pc) ∧ wx.cell? ⟨bW, 1, none⟩ = some (.slice ga (m.parts.length - 1) mc) := by
  obtain ⟨F, ⟨p, mv, h1, h2, _⟩, _⟩ := h.ref (i := 1) (bW := bW) rfl
  obtain ⟨ga, cap, rfl, _⟩ := row_form h1.row
  obtain ⟨c0, c1, _⟩ := h1.cells
  refine ⟨p.a, p.cap, ga, cap, ?_, ?_⟩
  · rw [c0]
    unfold PartM.val
    rw [h2, ref_len]
  · rw [c1, ref_marks]
theorem plays_len (h : Env w wx [strOb _ bS m, refOb _ bW (refOf m)]) : Calls Try.prog 12 #[.pointer (some ⟨bS, 0, none⟩)] wx fun e w' => e = .returned (.int .i64 (m.len : Int)) ∧ wx = w' := env_len h (i := 0) (bS := bS) rfl
theorem plays_marks (h : Env w wx [strOb _ bS m, refOb _ bW (refOf m)]) : Calls Try.prog 13 #[.pointer (some ⟨bS, 0, none⟩)] wx fun e w' => e = .returned (.int .i64 ((m.parts.length - 1 : Nat) : Int)) ∧ wx = w' := by
  have h1 := env_marks h (i := 0) (bS := bS) (m := m) rfl
  have h2 := (h.pos (i := 0) (bS := bS) rfl).1
  rw [show ((m.parts.length : Int) - 1) = ((m.parts.length - 1 : Nat) : Int) by omega] at h1
  exact h1
end

set_option maxHeartbeats 4000000 in
theorem inputPlays_walk (w : World) (a : Option Addr) (l : List OpI) (c : Nat) (hr : ScriptIn w a l) (hl : l.length ≤ maxLen) :
    Calls Try.prog 3 #[.slice a l.length c] w fun e w' => e = .returned (.bool true) ∧ Below w.heap.size w w' := by
  have HR := hide hr
  have HL := hide hl
  clear hr hl
  go_enter Try.func3, Try.ntmps3
  go_wp2_with (first
    | (go_at_call 9; go_must (refine (env_new (Env.start w)).mono ?_); rintro e w1 ⟨bS, rfl, hE⟩; have HE1 := hide (show Env w w1 [strOb _ bS newM] from hE); clear hE)
    | (go_at_call 10; go_must (refine (env_rnew (unhide HE1)).mono ?_); rintro e w2 ⟨bW, rfl, hE⟩; have HE2 := hide (show Env w w2 [strOb _ bS newM, refOb _ bW (refOf newM)] from hE); clear hE))
  go_loopg [5] l.length (fun gx s5 wx => ∃ (i : Nat) (m : StrM), s5 = .int .i64 i ∧ i + gx = l.length ∧ Env w wx [strOb _ bS m, refOb _ bW (refOf m)])
  case atStart => exact ⟨0, newM, rfl, by omega, unhide HE2⟩
  case round =>
    obtain ⟨i, m, rfl, hig, hE⟩ := hrel
    have HG := hide hig
    have HE := hide hE
    clear HE1 HE2
    by_cases hil : i < l.length
    · have hiz : (i : Int) < (l.length : Int) := by omega
      have hi0 : (0 : Int) ≤ (i : Int) := by omega
      have hw1 : IntKind.i64.wrap ((i : Int) + 1) = (i : Int) + 1 := by have := unhide HL; unfold maxLen at this; rw [IntKind.wrap_i64]; omega
      obtain ⟨⟨b, off, ha, hc0, hc1⟩, hrr, hrl⟩ := (unhide HR) i l[i] (List.getElem?_eq_getElem hil)
      have hd0 := hE.bel.cell (p := ⟨b, off + i * 2, none⟩) (World.block_lt_of_cell? w _ hc0)
      have hd1 := hE.bel.cell (p := ⟨b, off + i * 2 + 1, none⟩) (World.block_lt_of_cell? w _ hc1)
      rw [hc0] at hd0
      rw [hc1] at hd1
      generalize l[i] = o at hd0 hd1 hrr hrl hc0 hc1
      subst ha
      have HPL := hide (play_any (hE.more (Below.refl _ wr).drew) o hrr hrl)
      have HI := hide hil
      clear hig hE hil hrr hrl hc0 hc1
      go_wp2_with fail
      go_region_with (first
        | (go_at_call 11; go_must (refine (unhide HPL).mono ?_); rintro e w3 ⟨rfl, m', hv⟩; have HE3 := hide hv; obtain ⟨pa, pc, ga, mc, hcL, hcM⟩ := ref_cells hv; clear hv)
        | (go_at_call 12; go_must (refine (plays_len (unhide HE3)).mono ?_); rintro e w4 ⟨rfl, rfl⟩)
        | (go_at_call 13; go_must (refine (plays_marks (unhide HE3)).mono ?_); rintro e w4 ⟨rfl, rfl⟩))
      all_goals (try go_wp2)
      all_goals (go_roundg (gk - 1))
      all_goals first
        | (have := unhide HG; have := unhide HI; omega)
        | exact ⟨i + 1, m', by go_num, by have := unhide HG; have := unhide HI; omega, unhide HE3⟩
    · have hiz : ¬ (i : Int) < (l.length : Int) := by omega
      clear hig hE hil
      go_wp2_with (go_at_call 14; go_must (refine (awake_any _).mono ?_); rintro e w3 ⟨rfl, hb⟩; have HE3 := hide ((unhide HE).more hb); clear hb)
      go_ret
      exact ⟨rfl, (unhide HE3).bel⟩
end Go.Proofs.Ytlhebbhpcepfhaa
