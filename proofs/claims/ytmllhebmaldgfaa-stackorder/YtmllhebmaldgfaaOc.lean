/-
  StackOrder's walk.
-/
import Derived.Test.YtmllhebmaldgfaaOa
namespace Go.Proofs.Ytmllhebmaldgfaa
open Go.RowKit

theorem ksN_more (i : Nat) : ∃ t, ksN (i + 1) = ksN i ++ t := by
  exact ⟨[⟨1, 0, pB⟩], by simp [ksN, List.replicate_succ']⟩
set_option maxHeartbeats 8000000 in
theorem order_walk (x : Int) (hx0 : 0 ≤ x) (w : World) : Calls Try.prog 6 #[.int .u8 x] w fun e w' => e = .returned (.bool true) ∧ Below w.heap.size w w' := by
  obtain ⟨m, hm⟩ : ∃ m : Nat, x.tmod 50 = (m : Int) := ⟨(x.tmod 50).toNat, by
    have := Int.tmod_nonneg (a := x) 50 hx0
    omega⟩
  have hm50 : m < 50 := by
    have := Int.tmod_lt_of_pos x (show (0 : Int) < 50 by omega)
    omega
  have hmz : (m : Int) ≤ 50 := by omega
  have hm0 : (0 : Int) ≤ (m : Int) := by omega
  have H0 := hide (Env.start w)
  have HM := hide hm50
  clear hm50
  go_enter Try.func6, Try.ntmps6
  go_wp2_with (first
    | (go_at_call 26; refine (env_new (unhide H0)).mono ?_; rintro e w1 ⟨bA, rfl, hv⟩; have H1 := hide hv; clear hv)
    | (go_at_call 10; refine (env_snew (unhide H1) (i := 0) (bA := bA) rfl).mono ?_; rintro e w2 ⟨bK, rfl, hv⟩; have H2 := hide hv; clear hv))
  clear hm hx0
  go_loopg [7, 8, 9] m (fun g s7 _ _ wr => ∃ i : Nat, s7 = .int .i64 (i : Int) ∧ i + g = m ∧ Env w wr [arOb _ bA (ksN i), stOb _ bK bA (ksN i) (upTo i)])
  case atStart => exact ⟨0, rfl, by omega, unhide H2⟩
  case round =>
    obtain ⟨i, rfl, hig, hv⟩ := hrel
    have HV := hide hv
    have HG := hide hig
    clear hv
    by_cases hi : i < m
    · have hiz : (i : Int) < (m : Int) := by omega
      have HI : Hid (i ≤ 100) := hide (by have := unhide HM; omega)
      have H3 : Hid (∀ wx, Env w wx [arOb _ bA (ksN i), stOb _ bK bA (ksN i) (upTo i)] → Calls Try.prog 27 #[.pointer (some ⟨bA, 0, none⟩), .int .i64 0, .string pB, .slice none 0 0] wx fun e w' => e = .returned (.tuple #[.int .i64 ((i : Int) + 1), .int .i64 0]) ∧ Env w w' [arOb _ bA (ksN (i + 1)), stOb _ bK bA (ksN (i + 1)) (upTo i)]) := hide (fun wx hv => by
        have := env_elem hv (i := 0) (bA := bA) (ks := ksN i) rfl 0 pB
        rw [elemK_p i (unhide HI)] at this
        exact this.mono fun _ _ ⟨a, b⟩ => ⟨a, b.stay (j := 1) rfl (ksN_more i)⟩)
      have H4 : Hid (∀ wx, Env w wx [arOb _ bA (ksN (i + 1)), stOb _ bK bA (ksN (i + 1)) (upTo i)] → Calls Try.prog 19 #[.pointer (some ⟨bK, 0, none⟩), .int .i64 ((i : Int) + 1)] wx fun e w' => e = .returned (.int .i64 0) ∧ Env w w' [arOb _ bA (ksN (i + 1)), stOb _ bK bA (ksN (i + 1)) (upTo (i + 1))]) := hide (fun wx hv => by
        have := env_push hv (i := 0) (j := 1) (bK := bK) (bA := bA) rfl rfl (by decide) (good_N (i + 1) i (by omega)) ((i : Int) + 1)
        rw [enter_new, push_new] at this
        exact this)
      have H5 : Hid (∀ wx, Env w wx [arOb _ bA (ksN (i + 1)), stOb _ bK bA (ksN (i + 1)) (upTo (i + 1))] → Calls Try.prog 19 #[.pointer (some ⟨bK, 0, none⟩), .int .i64 ((i : Int) + 1)] wx fun e w' => e = .returned (.int .i64 1) ∧ Env w w' [arOb _ bA (ksN (i + 1)), stOb _ bK bA (ksN (i + 1)) (upTo (i + 1))]) := hide (fun wx hv => by
        have := env_push hv (i := 0) (j := 1) (bK := bK) (bA := bA) rfl rfl (by decide) (good_N (i + 1) (i + 1) (by omega)) ((i : Int) + 1)
        rw [enter_old, push_old] at this
        exact this)
      have H6 : Hid (∀ wx, Env w wx [arOb _ bA (ksN (i + 1)), stOb _ bK bA (ksN (i + 1)) (upTo (i + 1))] → Calls Try.prog 13 #[.pointer (some ⟨bK, 0, none⟩), .int .i64 ((i : Int) + 1)] wx fun e w' => e = .returned (.int .i64 (i : Int)) ∧ wx = w') := hide (fun wx hv => by
        have := env_find hv (i := 0) (j := 1) (bK := bK) (bA := bA) rfl rfl (by decide) (good_N (i + 1) (i + 1) (by omega)) ((i : Int) + 1)
        rw [find_new] at this
        exact this)
      have H7 : Hid (∀ wx, Env w wx [arOb _ bA (ksN (i + 1)), stOb _ bK bA (ksN (i + 1)) (upTo (i + 1))] → Calls Try.prog 22 #[.pointer (some ⟨bK, 0, none⟩)] wx fun e w' => e = .returned (.int .i64 ((i : Int) + 1)) ∧ wx = w') := hide (fun wx hv => by
        have := env_len hv (j := 1) (bK := bK) (bA := bA) (L := upTo (i + 1)) rfl
        rw [upTo_len] at this
        exact this)
      go_wp2_with (first
        | (go_at_call 27; refine ((unhide H3) _ (unhide HV)).mono ?_; rintro e w3 ⟨rfl, hv⟩; have E3 := hide hv; clear hv)
        | (have _x := unhide E4; clear _x; go_at_call 19; refine ((unhide H5) _ (unhide E4)).mono ?_; rintro e w5 ⟨rfl, hv⟩; have E5 := hide hv; clear hv)
        | (go_at_call 19; refine ((unhide H4) _ (unhide E3)).mono ?_; rintro e w4 ⟨rfl, hv⟩; have E4 := hide hv; clear hv)
        | (go_at_call 13; refine ((unhide H6) _ (unhide E5)).mono ?_; rintro e w6 ⟨rfl, rfl⟩)
        | (go_at_call 22; refine ((unhide H7) _ (unhide E5)).mono ?_; rintro e w6 ⟨rfl, rfl⟩))
      go_roundg (gk - 1)
      case measure => have := unhide HG; omega
      case rel => exact ⟨i + 1, by go_num, by have := unhide HG; omega, unhide E5⟩
    · obtain rfl : i = m := by omega
      have hiz : ¬ (i : Int) < (i : Int) := by omega
      clear hig hi
      go_wp2
      go_loopg [10] i (fun g s10 wr => s10 = .int .i64 (g : Int) ∧ g ≤ i ∧ Env w wr [arOb _ bA (ksN i), stOb _ bK bA (ksN i) (upTo g)])
      case atStart => exact ⟨rfl, Nat.le_refl _, unhide HV⟩
      case round =>
        obtain ⟨rfl, hgi, hv⟩ := hrel
        have HV2 := hide hv
        clear hv
        cases gk with
        | zero =>
          have P1 : Hid (∀ wx, Env w wx [arOb _ bA (ksN i), stOb _ bK bA (ksN i) (upTo 0)] → Calls Try.prog 28 #[.pointer (some ⟨bK, 0, none⟩)] wx fun e w' => e = .returned (.int .i64 (-1)) ∧ Env w w' [arOb _ bA (ksN i), stOb _ bK bA (ksN i) (upTo 0)]) := hide (fun wx hv => env_pop hv (i := 0) (j := 1) (bK := bK) (bA := bA) rfl rfl (by decide) (good_N i 0 (by omega)))
          have P2 : Hid (∀ wx, Env w wx [arOb _ bA (ksN i), stOb _ bK bA (ksN i) (upTo 0)] → Calls Try.prog 22 #[.pointer (some ⟨bK, 0, none⟩)] wx fun e w' => e = .returned (.int .i64 0) ∧ wx = w') := hide (fun wx hv => env_len hv (j := 1) (bK := bK) (bA := bA) (L := upTo 0) rfl)
          have P3 : Hid (∀ wx, Env w wx [arOb _ bA (ksN i), stOb _ bK bA (ksN i) (upTo 0)] → Calls Try.prog 19 #[.pointer (some ⟨bK, 0, none⟩), .int .i64 0] wx fun e w' => e = .returned (.int .i64 6) ∧ Below w.heap.size w w') := hide (fun wx hv => by
            have := env_push hv (i := 0) (j := 1) (bK := bK) (bA := bA) rfl rfl (by decide) (good_N i 0 (by omega)) 0
            rw [enter_doc] at this
            exact this.mono fun _ _ ⟨a, b⟩ => ⟨a, b.bel⟩)
          go_wp2_with (first
            | (go_at_call 28; refine ((unhide P1) _ (unhide HV2)).mono ?_; rintro e w3 ⟨rfl, hv⟩; have E3 := hide hv; clear hv)
            | (go_at_call 22; refine ((unhide P2) _ (unhide E3)).mono ?_; rintro e w4 ⟨rfl, rfl⟩)
            | (go_at_call 19; refine ((unhide P3) _ (unhide E3)).mono ?_; rintro e w5 ⟨rfl, hv⟩; have E5 := hide hv; clear hv)
            | (go_at_call 16; refine (awake_any _).mono ?_; rintro e w6 ⟨rfl, hb⟩; have E6 := hide ((unhide E5).trans (hb.mono (unhide E5).size)); clear hb))
          go_ret
          exact ⟨rfl, unhide E6⟩
        | succ n =>
          have e1 : ((n + 1 : Nat) : Int) = (n : Int) + 1 := by omega
          rw [e1]
          have P1 : Hid (∀ wx, Env w wx [arOb _ bA (ksN i), stOb _ bK bA (ksN i) (upTo (n + 1))] → Calls Try.prog 24 #[.pointer (some ⟨bK, 0, none⟩)] wx fun e w' => e = .returned (.int .i64 ((n : Int) + 1)) ∧ wx = w') := hide (fun wx hv => by
            have := env_top hv (i := 0) (j := 1) (bK := bK) (bA := bA) rfl rfl (by decide) (good_N i (n + 1) (by omega))
            rw [top_upTo] at this
            exact this)
          have P2 : Hid (∀ wx, Env w wx [arOb _ bA (ksN i), stOb _ bK bA (ksN i) (upTo (n + 1))] → Calls Try.prog 28 #[.pointer (some ⟨bK, 0, none⟩)] wx fun e w' => e = .returned (.int .i64 ((n : Int) + 1)) ∧ Env w w' [arOb _ bA (ksN i), stOb _ bK bA (ksN i) (upTo n)]) := hide (fun wx hv => by
            have := env_pop hv (i := 0) (j := 1) (bK := bK) (bA := bA) rfl rfl (by decide) (good_N i (n + 1) (by omega))
            rw [top_upTo, pop_upTo] at this
            exact this)
          have P3 : Hid (∀ wx, Env w wx [arOb _ bA (ksN i), stOb _ bK bA (ksN i) (upTo n)] → Calls Try.prog 13 #[.pointer (some ⟨bK, 0, none⟩), .int .i64 ((n : Int) + 1)] wx fun e w' => e = .returned (.int .i64 (-1)) ∧ wx = w') := hide (fun wx hv => by
            have := env_find hv (i := 0) (j := 1) (bK := bK) (bA := bA) rfl rfl (by decide) (good_N i n (by omega)) ((n : Int) + 1)
            rw [find_gone] at this
            exact this)
          have hn0 : (0 : Int) < (n : Int) + 1 := by omega
          have hnz : (n : Int) + 1 ≤ 50 := by omega
          clear e1
          go_wp2_with (first
            | (go_at_call 24; refine ((unhide P1) _ (unhide HV2)).mono ?_; rintro e w3 ⟨rfl, rfl⟩)
            | (go_at_call 28; refine ((unhide P2) _ (unhide HV2)).mono ?_; rintro e w4 ⟨rfl, hv⟩; have E4 := hide hv; clear hv)
            | (go_at_call 13; refine ((unhide P3) _ (unhide E4)).mono ?_; rintro e w5 ⟨rfl, rfl⟩))
          go_roundg n
          case measure => omega
          case rel => exact ⟨by go_num, by omega, unhide E4⟩
end Go.Proofs.Ytmllhebmaldgfaa
