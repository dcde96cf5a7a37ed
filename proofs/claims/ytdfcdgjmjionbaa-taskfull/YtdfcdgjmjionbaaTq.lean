/-
  The law's awake; TaskFull's walk.
-/
import Derived.Test.YtdfcdgjmjionbaaTn
import Derived.Deep.LoopGhost
namespace Go.Proofs.Ytdfcdgjmjionbaa
open Go.RowKit Go.Lib

def qs0 : List (List Tk) := [[], [], [], []]
theorem set_post (n : Nat) (h : n < 4) (l : List Tk) (t : Tk) (hl : l.length < 4096) : postM (qs0.set n l) n t = (0, qs0.set n (l ++ [t])) := by
  unfold postM
  rcases (by omega : n = 0 ∨ n = 1 ∨ n = 2 ∨ n = 3) with rfl | rfl | rfl | rfl <;> simp [qs0, hl]
theorem set_full (n : Nat) (h : n < 4) (l : List Tk) (t : Tk) (hl : 4096 ≤ l.length) : postM (qs0.set n l) n t = (9, qs0.set n l) := by
  unfold postM
  rcases (by omega : n = 0 ∨ n = 1 ∨ n = 2 ∨ n = 3) with rfl | rfl | rfl | rfl <;> simp [qs0, Nat.not_lt.2 hl]
theorem set_len (n : Nat) (h : n < 4) (l : List Tk) : lenQ (qs0.set n l) = l.length := by
  rcases (by omega : n = 0 ∨ n = 1 ∨ n = 2 ∨ n = 3) with rfl | rfl | rfl | rfl <;> simp [qs0, lenQ]
theorem set_other (n m : Nat) (h : n < 4) (hm : m < 4) (hne : m ≠ n) (l : List Tk) (t : Tk) : (postM (qs0.set n l) m t).1 = 0 := by
  unfold postM
  rcases (by omega : n = 0 ∨ n = 1 ∨ n = 2 ∨ n = 3) with rfl | rfl | rfl | rfl <;> rcases (by omega : m = 0 ∨ m = 1 ∨ m = 2 ∨ m = 3) with rfl | rfl | rfl | rfl <;> simp_all [qs0]

theorem awake_any (w : World) : Calls Try.prog 22 #[] w fun e w' => e = .returned (.bool true) ∧ Below w.heap.size w w' := by
  go_enter Try.func22, Try.ntmps22
  go_wp2_with (go_at_call 9; fail)
  refine (new_any _ _ (Nat.le_refl _)).mono ?_
  rintro e w1 ⟨bq, F, rfl, hq, hb, hF⟩
  have HQ := hide hq
  have HB1 := hide hb
  have HF := hide hF
  clear hq hb hF
  go_wp2_with (go_at_call 12; fail)
  refine (job_any _ _).mono ?_
  rintro e w2 ⟨x, rfl, hb, hx⟩
  have HX := hide hx
  have HB2 := hide hb
  clear hx hb
  go_wp2_with (go_at_call 11; fail)
  refine (post_any ((unhide HQ).below (unhide HB2)) (Nat.le_trans (unhide HB1).size (unhide HB2).size) 1 (tkJob 5) x (unhide HX)).mono ?_
  rintro e w3 ⟨rfl, F', hq, hm, hF⟩
  have e1 : postM [[], [], [], []] 1 (tkJob 5) = (0, qs0.set 1 [tkJob 5]) := rfl
  rw [e1] at hq ⊢
  have HQ3 := hide hq
  have HB3 : Hid (Below w.heap.size w w3) := hide (((Mod.of_below (unhide HB1)).trans ((Mod.of_below (F := fun k => w.heap.size ≤ k) ((unhide HB2)))) |>.then hm (fun k hk => .inl ((unhide HQ).lt k hk).1)).below (Nat.le_refl _) (fun k hk => hk))
  clear hq hm hF
  dsimp only
  go_wp2_with (go_at_call 17; fail)
  refine (len_any (unhide HQ3)).mono ?_
  rintro e w4 ⟨rfl, hb⟩
  have HB4 := hide ((unhide HB3).trans (hb.mono (unhide HB3).size))
  clear hb
  have e2 : ((lenQ (qs0.set 1 [tkJob 5]) : Nat) : Int) = 1 := rfl
  go_wp2
  go_ret
  exact ⟨rfl, unhide HB4⟩

def jobsL (i : Nat) : List Tk := (List.range i).map fun (j : Nat) => tkJob j
theorem jobsL_len (i : Nat) : (jobsL i).length = i := by simp [jobsL]
theorem jobsL_succ (i : Nat) : jobsL (i + 1) = jobsL i ++ [tkJob i] := by simp [jobsL, List.range_succ]
theorem full_walk (a s : Int) (ha : 0 ≤ a ∧ a ≤ 65535) (hs : 0 ≤ s ∧ s ≤ 255) (w : World) :
    Calls Try.prog 5 #[.int .u16 a, .int .u8 s] w fun e w' => e = .returned (.bool true) ∧ Below w.heap.size w w' := by
  obtain ⟨n, N, hn4, hnN, hn⟩ : ∃ (n : Nat) (N : Int), n < 4 ∧ N = (n : Int) ∧ s.tmod 4 = N := ⟨(s.tmod 4).toNat, s.tmod 4, by have := Int.tmod_nonneg 4 hs.1; have := Int.tmod_lt_of_pos s (show (0 : Int) < 4 by omega); omega, by have := Int.tmod_nonneg 4 hs.1; omega, rfl⟩
  obtain ⟨m, M, hm4, hmM, hm⟩ : ∃ (m : Nat) (M : Int), m < 4200 ∧ M = (m : Int) ∧ a.tmod 4200 = M := ⟨(a.tmod 4200).toNat, a.tmod 4200, by have := Int.tmod_nonneg 4200 ha.1; have := Int.tmod_lt_of_pos a (show (0 : Int) < 4200 by omega); omega, by have := Int.tmod_nonneg 4200 ha.1; omega, rfl⟩
  obtain ⟨n2, N2, hn24, hnN2, hn2, hne⟩ : ∃ (n2 : Nat) (N2 : Int), n2 < 4 ∧ N2 = (n2 : Int) ∧ (N + 1).tmod 4 = N2 ∧ n2 ≠ n := by
    rcases (by omega : n = 0 ∨ n = 1 ∨ n = 2 ∨ n = 3) with rfl | rfl | rfl | rfl <;> subst hnN
    · exact ⟨1, 1, by omega, rfl, by decide, by omega⟩
    · exact ⟨2, 2, by omega, rfl, by decide, by omega⟩
    · exact ⟨3, 3, by omega, rfl, by decide, by omega⟩
    · exact ⟨0, 0, by omega, rfl, by decide, by omega⟩
  have hwn : wrap64 N = N := by unfold wrap64; omega
  have hwm : wrap64 M = M := by unfold wrap64; omega
  have hwn2 : wrap64 (N + 1) = N + 1 := by unfold wrap64; omega
  have hwn3 : wrap64 N2 = N2 := by unfold wrap64; omega
  have HN := hide hn4
  have HM := hide hm4
  have HNN := hide hnN
  have HMM := hide hmM
  have HN2 := hide (And.intro hn24 (And.intro hnN2 hne))
  have hm0 : 0 ≤ M := by omega
  have hm1 : M < 4200 := by omega
  have hn0 : 0 ≤ N := by omega
  have hn1 : N < 4 := by omega
  have hc0 : ((tkJob 0).acts.length : Int) = 1 := rfl
  clear ha hs hn4 hm4 hnN hmM hn24 hnN2 hne hc0
  go_enter Try.func5, Try.ntmps5
  go_wp2_with (go_at_call 9; fail)
  refine (new_any _ _ (Nat.le_refl _)).mono ?_
  rintro e w1 ⟨bq, F, rfl, hq, hb, hF⟩
  have HQ := hide hq
  have HB1 := hide hb
  clear hq hb hF
  go_wp2
  go_loopg [8, 9] m (fun k s8 s9 wx => ∃ (i : Nat) (z : Int) (F : Nat → Prop), s8 = .int .i64 z ∧ i + k = m ∧ z = (i : Int) ∧ Below w.heap.size w wx ∧ QueS wx w.heap.size bq (qs0.set n (jobsL (min i 4096))) F)
  case atStart => exact ⟨0, 0, F, rfl, by omega, rfl, unhide HB1, by rw [Nat.min_eq_left (by omega)]; have := unhide HN; rw [show qs0.set n (jobsL 0) = [[], [], [], []] by rcases (by omega : n = 0 ∨ n = 1 ∨ n = 2 ∨ n = 3) with rfl | rfl | rfl | rfl <;> rfl]; exact unhide HQ⟩
  case round =>
    obtain ⟨i, z, F, rfl, hik, hz, hb, hq⟩ := hrel
    have HBX := hide hb
    have HQX := hide hq
    clear hb hq
    by_cases him : i < m
    · have hzm : z < M := by have := unhide HMM; omega
      have hz0 : 0 ≤ z := by omega
      have HZ := hide hz
      have HIK := hide hik
      have HIM := hide him
      clear hik him hz
      go_wp2_with (go_at_call 12; fail)
      refine (job_any _ _).mono ?_
      rintro e w2 ⟨x, rfl, hb, hx⟩
      have HX := hide hx
      have HB2 := hide ((unhide HBX).trans (hb.mono (unhide HBX).size))
      have HQ2 := hide ((unhide HQX).below hb)
      clear hx hb
      go_wp2_with (go_at_call 11; fail)
      have HPP := post_any (unhide HQ2) (unhide HB2).size n (tkJob z) x (unhide HX)
      rw [← unhide HNN] at HPP
      refine HPP.mono ?_
      by_cases h4 : i < 4096
      · rw [unhide HNN, set_post n (unhide HN) _ _ (by rw [jobsL_len]; omega)]
        rintro e w3 ⟨rfl, F', hq, hm', hF⟩
        dsimp only at hq ⊢
        have HQ3 : Hid (QueS w3 w.heap.size bq (qs0.set n (jobsL (min (i + 1) 4096))) F') := hide (by rw [Nat.min_eq_left (by omega), jobsL_succ]; rw [Nat.min_eq_left (by omega), unhide HZ] at hq; exact hq)
        have HB3 : Hid (Below w.heap.size w w3) := hide (((Mod.of_below (F := fun k => w.heap.size ≤ k) (unhide HB2)).then hm' (fun k hk => .inl ((unhide HQ2).lt k hk).1)).below (Nat.le_refl _) (fun k hk => hk))
        have hz6 : z < 4096 := by have := unhide HZ; omega
        rw [← unhide HNN]
        clear hq hm' hF h4 HPP
        go_wp2
        go_roundg (gk - 1)
        case measure => have := unhide HIK; have := unhide HIM; omega
        case rel => exact ⟨i + 1, _, F', by go_num, by have := unhide HIK; have := unhide HIM; omega, by have := unhide HZ; omega, unhide HB3, unhide HQ3⟩
      · rw [unhide HNN, set_full n (unhide HN) _ _ (by rw [jobsL_len]; omega)]
        rintro e w3 ⟨rfl, F', hq, hm', hF⟩
        dsimp only at hq ⊢
        have HQ3 : Hid (QueS w3 w.heap.size bq (qs0.set n (jobsL (min (i + 1) 4096))) F') := hide (by rw [Nat.min_eq_right (by omega)]; rw [Nat.min_eq_right (by omega)] at hq; exact hq)
        have HB3 : Hid (Below w.heap.size w w3) := hide (((Mod.of_below (F := fun k => w.heap.size ≤ k) (unhide HB2)).then hm' (fun k hk => .inl ((unhide HQ2).lt k hk).1)).below (Nat.le_refl _) (fun k hk => hk))
        have hz6 : ¬ z < 4096 := by have := unhide HZ; omega
        rw [← unhide HNN]
        clear hq hm' hF h4 HPP
        go_wp2
        go_roundg (gk - 1)
        case measure => have := unhide HIK; have := unhide HIM; omega
        case rel => exact ⟨i + 1, _, F', by go_num, by have := unhide HIK; have := unhide HIM; omega, by have := unhide HZ; omega, unhide HB3, unhide HQ3⟩
    · have hi : i = m := by omega
      obtain rfl : z = M := by rw [unhide HMM]; omega
      rw [hi] at HQX
      obtain ⟨L, hL, hLL⟩ : ∃ L : Int, ((min m 4096 : Nat) : Int) = L ∧ L = if z ≤ 4096 then z else 4096 := ⟨_, rfl, by have := unhide HMM; split <;> omega⟩
      clear him hik hz hi
      go_wp2_with (go_at_call 17; fail)
      refine (len_any (unhide HQX)).mono ?_
      rw [set_len n (unhide HN), jobsL_len, hL]
      rintro e w2 ⟨rfl, hb⟩
      have HB2 := hide ((unhide HBX).trans (hb.mono (unhide HBX).size))
      have HQ2 := hide ((unhide HQX).below hb)
      clear hb hL
      by_cases hz4 : z ≤ 4096
      · rw [if_pos hz4] at hLL
        have hz5 : ¬ (4096 < z) := by omega
        subst hLL
        go_wp2_with (go_at_call 12; fail)
        refine (job_any _ _).mono ?_
        rintro e w3 ⟨x, rfl, hb, hx⟩
        have HX := hide hx
        have HB3 := hide ((unhide HB2).trans (hb.mono (unhide HB2).size))
        have HQ3 := hide ((unhide HQ2).below hb)
        clear hx hb
        go_wp2_with (go_at_call 11; fail)
        have HPP := post_any (unhide HQ3) (unhide HB3).size N2 (tkJob 1) x (unhide HX)
        refine HPP.mono ?_
        rw [(unhide HN2).2.1, set_other n n2 (unhide HN) (unhide HN2).1 (unhide HN2).2.2]
        rw [← (unhide HN2).2.1]
        rintro e w4 ⟨rfl, F4, hq, hm', hF⟩
        have HQ4 := hide hq
        have HB4 : Hid (Below w.heap.size w w4) := hide (((Mod.of_below (F := fun k => w.heap.size ≤ k) (unhide HB3)).then hm' (fun k hk => .inl ((unhide HQ3).lt k hk).1)).below (Nat.le_refl _) (fun k hk => hk))
        clear hq hm' hF HPP
        go_wp2_with (go_at_call 12; fail)
        refine (job_any _ _).mono ?_
        rintro e w5 ⟨y, rfl, hb, hx⟩
        have HX5 := hide hx
        have HB5 := hide ((unhide HB4).trans (hb.mono (unhide HB4).size))
        have HQ5 := hide ((unhide HQ4).below hb)
        clear hx hb
        go_wp2_with (go_at_call 11; fail)
        have HPP := post_any (unhide HQ5) (unhide HB5).size 4 (tkJob 1) y (unhide HX5)
        refine HPP.mono ?_
        rw [show ∀ qs, (postM qs 4 (tkJob 1)).1 = 1 from fun qs => rfl]
        rintro e w6 ⟨rfl, F6, hq, hm', hF⟩
        have HB6 : Hid (Below w.heap.size w w6) := hide (((Mod.of_below (F := fun k => w.heap.size ≤ k) (unhide HB5)).then hm' (fun k hk => .inl ((unhide HQ5).lt k hk).1)).below (Nat.le_refl _) (fun k hk => hk))
        clear hq hm' hF HPP
        go_wp2_with (go_at_call 22; fail)
        refine (awake_any _).mono ?_
        rintro e w7 ⟨rfl, hb⟩
        have HB7 := hide ((unhide HB6).trans (hb.mono (unhide HB6).size))
        clear hb
        go_wp2
        go_ret
        exact ⟨rfl, unhide HB7⟩
      · rw [if_neg hz4] at hLL
        have hz5 : 4096 < z := by omega
        subst hLL
        go_wp2_with (go_at_call 12; fail)
        refine (job_any _ _).mono ?_
        rintro e w3 ⟨x, rfl, hb, hx⟩
        have HX := hide hx
        have HB3 := hide ((unhide HB2).trans (hb.mono (unhide HB2).size))
        have HQ3 := hide ((unhide HQ2).below hb)
        clear hx hb
        go_wp2_with (go_at_call 11; fail)
        have HPP := post_any (unhide HQ3) (unhide HB3).size N2 (tkJob 1) x (unhide HX)
        refine HPP.mono ?_
        rw [(unhide HN2).2.1, set_other n n2 (unhide HN) (unhide HN2).1 (unhide HN2).2.2]
        rw [← (unhide HN2).2.1]
        rintro e w4 ⟨rfl, F4, hq, hm', hF⟩
        have HQ4 := hide hq
        have HB4 : Hid (Below w.heap.size w w4) := hide (((Mod.of_below (F := fun k => w.heap.size ≤ k) (unhide HB3)).then hm' (fun k hk => .inl ((unhide HQ3).lt k hk).1)).below (Nat.le_refl _) (fun k hk => hk))
        clear hq hm' hF HPP
        go_wp2_with (go_at_call 12; fail)
        refine (job_any _ _).mono ?_
        rintro e w5 ⟨y, rfl, hb, hx⟩
        have HX5 := hide hx
        have HB5 := hide ((unhide HB4).trans (hb.mono (unhide HB4).size))
        have HQ5 := hide ((unhide HQ4).below hb)
        clear hx hb
        go_wp2_with (go_at_call 11; fail)
        have HPP := post_any (unhide HQ5) (unhide HB5).size 4 (tkJob 1) y (unhide HX5)
        refine HPP.mono ?_
        rw [show ∀ qs, (postM qs 4 (tkJob 1)).1 = 1 from fun qs => rfl]
        rintro e w6 ⟨rfl, F6, hq, hm', hF⟩
        have HB6 : Hid (Below w.heap.size w w6) := hide (((Mod.of_below (F := fun k => w.heap.size ≤ k) (unhide HB5)).then hm' (fun k hk => .inl ((unhide HQ5).lt k hk).1)).below (Nat.le_refl _) (fun k hk => hk))
        clear hq hm' hF HPP
        go_wp2_with (go_at_call 22; fail)
        refine (awake_any _).mono ?_
        rintro e w7 ⟨rfl, hb⟩
        have HB7 := hide ((unhide HB6).trans (hb.mono (unhide HB6).size))
        clear hb
        go_wp2
        go_ret
        exact ⟨rfl, unhide HB7⟩
end Go.Proofs.Ytdfcdgjmjionbaa
