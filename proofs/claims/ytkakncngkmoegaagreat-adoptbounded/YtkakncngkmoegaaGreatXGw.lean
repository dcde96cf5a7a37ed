import Derived.Test.YtkakncngkmoegaaGreatXGv
import Derived.Deep.LoopGhost
/-
  The agency: the special element above F; all down to F is popped; whether the top is all that there is to close.
-/
namespace Go.Proofs.YtkakncngkmoegaaGreat
open Go.RowKit Go.Sort

section
variable {w wx : World} {P : Pt} {s : St} {c : Ct} {rest : List (Ob w.heap.size)} {n : Nat}
set_option maxHeartbeats 1000000 in
theorem gspecial_any (h : AE w wx P s c rest) (hi : Inv s n) (f : Int) (hf : 0 ≤ findM s.L f) : Calls Tryz.prog 92 #[.pointer (some ⟨P.bG, 0, none⟩), .int .i64 f] wx fun e w' => e = .returned (.int .i64 (blockP (keysO s.os) s.L f)) ∧ AE w w' P s c rest := by
  have hL := h.few hi
  obtain ⟨k, hk⟩ : ∃ k : Nat, findM s.L f = (k : Int) := ⟨(findM s.L f).toNat, by omega⟩
  have hkl : k < s.L.length := by
    unfold findM at hk
    split at hk
    · rename_i hm
      have := List.idxOf_lt_length_iff.2 hm
      omega
    · omega
  have hbl : blockP (keysO s.os) s.L f = specP (keysO s.os) s.L (s.L.length - (k + 1)) (k + 1) := by
    unfold blockP
    rw [hk, Int.toNat_natCast]
  rw [hbl]
  have HF := hide (fun W (hW : AE w W P s c rest) => ae_sfind hW hi f)
  rw [hk] at HF
  have HN := hide (fun W (hW : AE w W P s c rest) => ae_slen hW)
  have HAT := hide (fun W (hW : AE w W P s c rest) (i : Int) => ae_sat hW i)
  have HSP := hide (fun W (hW : AE w W P s c rest) (id : Int) => ae_special hW id)
  have HC := hide (fun W (hW : AE w W P s c rest) => hW.cells)
  obtain ⟨g0, g1, _⟩ := h.cells
  have HE := hide h
  have hw1 : IntKind.i64.wrap ((k : Int) + 1) = (k : Int) + 1 := wrap_small (by omega) (by omega)
  clear h hi hbl hk hf
  generalize hLL : s.L.length = ll at *
  clear hLL
  generalize hR : specP (keysO s.os) s.L (ll - (k + 1)) (k + 1) = R at *
  have HR := hide hR
  clear hR
  go_enter Tryz.func92, Tryz.ntmps92
  go_wp2_with (first
    | (go_at_call 89; refine ((unhide HF) _ (unhide HE)).mono ?_; rintro e w1 ⟨rfl, rfl⟩))
  go_loopg [5, 6] (ll - (k + 1)) (fun g s5 _ wr => ∃ j : Nat, j + g = ll ∧ s5 = .int .i64 j ∧ AE w wr P s c rest ∧ specP (keysO s.os) s.L g j = R)
  case atStart => exact ⟨k + 1, by omega, by simp, unhide HE, unhide HR⟩
  case round =>
    obtain ⟨j, hjg, rfl, hae, hrr⟩ := hrel
    have HE2 := hide hae
    have HRR := hide hrr
    obtain ⟨g0, g1, _⟩ := hae.cells
    clear hae hrr
    by_cases hj : j < ll
    · have hjz : (j : Int) < (ll : Int) := by omega
      obtain ⟨g1', rfl⟩ : ∃ g', gk = g' + 1 := ⟨gk - 1, by omega⟩
      have hrr := unhide HRR
      unfold specP at hrr
      cases hsp : specM (keysO s.os) (atM s.L (j : Int)) with
      | true =>
        rw [hsp, if_pos rfl] at hrr
        have HR3 := hide hrr
        have HSP2 := hide hsp
        clear hrr hsp
        go_wp2_with (first
          | (go_at_call 13; refine ((unhide HN) _ (unhide HE2)).mono ?_; rintro e w1 ⟨rfl, rfl⟩)
          | (go_at_call 15; refine ((unhide HAT) _ (unhide HE2) _).mono ?_; rintro e w1 ⟨rfl, rfl⟩)
          | (go_at_call 129; refine ((unhide HSP) _ (unhide HE2) _).mono ?_; rintro e w2 ⟨rfl, he2⟩; rw [unhide HSP2]; have HE3 := hide he2; clear he2))
        go_ret
        have e3 := unhide HR3
        subst e3
        exact ⟨rfl, unhide HE3⟩
      | false =>
        rw [hsp, if_neg (by simp)] at hrr
        have HR3 := hide hrr
        have HSP2 := hide hsp
        have hw2 : IntKind.i64.wrap ((j : Int) + 1) = (j : Int) + 1 := wrap_small (by omega) (by omega)
        clear hrr hsp
        go_wp2_with (first
          | (go_at_call 13; refine ((unhide HN) _ (unhide HE2)).mono ?_; rintro e w1 ⟨rfl, rfl⟩)
          | (go_at_call 15; refine ((unhide HAT) _ (unhide HE2) _).mono ?_; rintro e w1 ⟨rfl, rfl⟩)
          | (go_at_call 129; refine ((unhide HSP) _ (unhide HE2) _).mono ?_; rintro e w2 ⟨rfl, he2⟩; rw [unhide HSP2]; have HE3 := hide he2; clear he2))
        go_roundg g1'
        case measure => omega
        case rel => exact ⟨j + 1, by omega, by simp, unhide HE3, unhide HR3⟩
    · have hjz : ¬ (j : Int) < (ll : Int) := by omega
      obtain rfl : gk = 0 := by omega
      go_wp2_with (first
        | (go_at_call 13; refine ((unhide HN) _ (unhide HE2)).mono ?_; rintro e w1 ⟨rfl, rfl⟩))
      go_ret
      have e3 : (-1 : Int) = R := unhide HRR
      subst e3
      exact ⟨rfl, unhide HE2⟩
end
end Go.Proofs.YtkakncngkmoegaaGreat
