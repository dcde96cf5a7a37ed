import Derived.Test.YtkakncngkmoegaaGreatXGw
/-
  The agency: all down to F is popped.
-/
namespace Go.Proofs.YtkakncngkmoegaaGreat
open Go.RowKit Go.Sort

theorem topM_take {L : List Int} {m : Nat} (h0 : 0 < m) (h1 : m ≤ L.length) : topM (L.take m) = atM L ((m : Int) - 1) ∧ popL (L.take m) = L.take (m - 1) := by
  have hl : (L.take m).length = m := by rw [List.length_take]; omega
  refine ⟨?_, ?_⟩
  · unfold topM atM
    rw [hl, if_pos (by omega), if_pos (by omega)]
    rw [List.getElem?_take, if_pos (by omega)]
  · unfold popL
    rw [hl, List.take_take, Nat.min_eq_left (by omega)]
theorem Inv.takeL {s : St} {n : Nat} (h : Inv s n) (m : Nat) : Inv ⟨s.os, s.L.take m, s.es, s.mark⟩ n := ⟨h.good.sub (List.take_sublist _ _), h.ent, h.few, h.less, h.one⟩
theorem findM_nat {L : List Int} {f : Int} (h : 0 ≤ findM L f) : ∃ k : Nat, findM L f = (k : Int) ∧ k < L.length ∧ L[k]? = some f := by
  unfold findM at h ⊢
  split at h
  · rename_i hm
    have hlt := List.idxOf_lt_length_iff.2 hm
    rw [if_pos hm]
    exact ⟨_, rfl, hlt, by rw [List.getElem?_eq_getElem hlt, List.getElem_idxOf hlt]⟩
  · omega
section
variable {w wx : World} {P : Pt} {s : St} {c : Ct} {rest : List (Ob w.heap.size)} {n : Nat}
set_option maxHeartbeats 1000000 in
theorem gpopTo_any (h : AE w wx P s c rest) (hi : Inv s n) (f : Int) (hf : 0 ≤ findM s.L f) : Calls Tryz.prog 93 #[.pointer (some ⟨P.bG, 0, none⟩), .int .i64 f] wx fun e w' => e = .returned (.tuple #[]) ∧ AE w w' P ⟨s.os, s.L.take (findM s.L f).toNat, s.es, s.mark⟩ c rest := by
  obtain ⟨k, hk, hkl, hkf⟩ := findM_nat hf
  rw [hk, Int.toNat_natCast]
  have HP : Hid (∀ (W : World) (m : Nat), 0 < m → m ≤ s.L.length → AE w W P ⟨s.os, s.L.take m, s.es, s.mark⟩ c rest → Calls Tryz.prog 38 #[.pointer (some ⟨P.bK, 0, none⟩)] W fun e w' => e = .returned (.int .i64 (atM s.L ((m : Int) - 1))) ∧ AE w w' P ⟨s.os, s.L.take (m - 1), s.es, s.mark⟩ c rest) := hide (fun W m h0 h1 hW => by
    have := ae_spop hW (hi.takeL m)
    simp only [(topM_take h0 h1).1, (topM_take h0 h1).2] at this
    exact this)
  have HC := hide (fun W m (hW : AE w W P ⟨s.os, s.L.take m, s.es, s.mark⟩ c rest) => hW.cells)
  have HE : Hid (AE w wx P ⟨s.os, s.L.take s.L.length, s.es, s.mark⟩ c rest) := hide (by rw [List.take_length]; exact h)
  have HAT : Hid (∀ m : Nat, 0 < m → m ≤ s.L.length → (atM s.L ((m : Int) - 1) = f ↔ m - 1 = k)) := hide (fun m h0 h1 => by
    have e : atM s.L ((m : Int) - 1) = s.L[m - 1]'(by omega) := by
      unfold atM
      rw [if_pos (by omega), show ((m : Int) - 1).toNat = m - 1 by omega, List.getElem?_eq_getElem (by omega)]
      rfl
    rw [e]
    obtain ⟨_, hkf2⟩ := List.getElem?_eq_some_iff.1 hkf
    constructor
    · intro e2
      have hp := List.pairwise_iff_getElem.1 hi.good.nodup
      rcases Nat.lt_trichotomy (m - 1) k with e3 | e3 | e3
      · exact absurd (e2.trans hkf2.symm) (hp _ _ (by omega) hkl e3)
      · exact e3
      · exact absurd (hkf2.trans e2.symm) (hp _ _ hkl (by omega) e3)
    · intro e2
      subst e2
      exact hkf2)
  clear h hi hk hf hkf
  generalize hLL : s.L.length = ll at *
  clear hLL
  go_enter Tryz.func93, Tryz.ntmps93
  go_wp2
  go_loopg [] ll (fun g wr => k < g ∧ g ≤ ll ∧ AE w wr P ⟨s.os, s.L.take g, s.es, s.mark⟩ c rest)
  case atStart => exact ⟨hkl, Nat.le_refl _, unhide HE⟩
  case round =>
    obtain ⟨h1, h2, hae⟩ := hrel
    obtain ⟨g0, g1, _⟩ := hae.cells
    have HA := hide hae
    have hat := (unhide HAT) gk (by omega) h2
    clear hae
    by_cases he : gk - 1 = k
    · have hv : atM s.L ((gk : Int) - 1) = f := hat.2 he
      have HV := hide hv
      clear hat hv
      go_wp2_with (go_at_call 38; refine ((unhide HP) _ gk (by omega) h2 (unhide HA)).mono ?_; rintro e w1 ⟨rfl, he1⟩; rw [unhide HV]; have HA1 := hide he1; clear he1)
      have HB := unhide HA1
      rw [he] at HB
      exact ⟨rfl, _, results_none rfl _ _ _, rfl, HB⟩
    · have hv : ¬ atM s.L ((gk : Int) - 1) = f := fun e => he (hat.1 e)
      have hv2 : (atM s.L ((gk : Int) - 1) != f) = true := by simpa using hv
      clear hat
      go_wp2_with (go_at_call 38; refine ((unhide HP) _ gk (by omega) h2 (unhide HA)).mono ?_; rintro e w1 ⟨rfl, he1⟩; have HA1 := hide he1; clear he1)
      go_roundg (gk - 1)
      case measure => omega
      case rel => exact ⟨by omega, by omega, unhide HA1⟩
end
end Go.Proofs.YtkakncngkmoegaaGreat
