/-
  EntityPrefixes: what Longest tells, and no longer one (plain); the walk.
-/
import Derived.Test.YtdhknaiggnafnaaTq
import Derived.Test.YtdhknaiggnafnaaTr
namespace Go.Proofs.Ytdhknaiggnafnaa
open Go.RowKit Go.Lib

theorem longF_none (T : List (ByteArray × Int)) (s : ByteArray) : ∀ N, longF T s N = none → ∀ k, 0 < k → k ≤ N → T.find? (fun x => isB x.1 (s.extract 0 k)) = none
  | 0, _, k, h1, h2 => by omega
  | N + 1, h, k, h1, h2 => by
    unfold longF at h
    cases e : T.find? (fun x => isB x.1 (s.extract 0 (N + 1))) with
    | some x => rw [e] at h; cases h
    | none =>
      rw [e] at h
      by_cases hk : k = N + 1
      · rw [hk]; exact e
      · exact longF_none T s N h k h1 (by omega)
theorem longF_some (T : List (ByteArray × Int)) (s : ByteArray) (n : Nat) (x : ByteArray × Int) : ∀ N, longF T s N = some (n, x) → 0 < n ∧ n ≤ N ∧ T.find? (fun x => isB x.1 (s.extract 0 n)) = some x ∧ ∀ k, n < k → k ≤ N → T.find? (fun x => isB x.1 (s.extract 0 k)) = none
  | 0, h => by cases h
  | N + 1, h => by
    unfold longF at h
    cases e : T.find? (fun x => isB x.1 (s.extract 0 (N + 1))) with
    | some y =>
      rw [e] at h
      cases h
      exact ⟨by omega, Nat.le_refl _, e, fun k h1 h2 => by omega⟩
    | none =>
      rw [e] at h
      obtain ⟨h1, h2, h3, h4⟩ := longF_some T s n x N h
      refine ⟨h1, by omega, h3, fun k k1 k2 => ?_⟩
      by_cases hk : k = N + 1
      · rw [hk]; exact e
      · exact h4 k k1 (by omega)
theorem findM_pre (s : ByteArray) (n : Nat) (hn : 0 < n) : findM (s.extract 0 n) = ((tabL s.data.toList).find? (fun x => isB x.1 (s.extract 0 n))).map ptsOf := by
  unfold findM
  rw [extract_pre, tabL_pre _ n hn]
theorem findM_far (s : ByteArray) (n : Nat) (hn : 10 ≤ n) (hs : n ≤ s.size) : findM (s.extract 0 n) = none := by
  rw [find_ref]; exact ref_far s n hn hs
theorem long_no_more (s : ByteArray) (N : Nat) (h : ∀ k, N < k → k ≤ min s.size 9 → (tabL s.data.toList).find? (fun x => isB x.1 (s.extract 0 k)) = none) (i : Nat) (h1 : N < i) (h2 : i ≤ s.size) : findM (s.extract 0 i) = none := by
  by_cases hi : i ≤ 9
  · rw [findM_pre s i (by omega), h i h1 (by omega)]; rfl
  · exact findM_far s i (by omega) h2
theorem data_inj {a b : ByteArray} (h : a.data.toList = b.data.toList) : a = b := by
  obtain ⟨⟨x⟩⟩ := a
  obtain ⟨⟨y⟩⟩ := b
  exact congrArg (fun l : List UInt8 => (⟨⟨l⟩⟩ : ByteArray)) h

/-- What Longest tells of a text: its beginnings, and none longer. -/
structure LongOk (s A : ByteArray) (P : List Int) : Prop where
  le : A.size ≤ s.size
  short : A.size ≤ 9
  pre : s.extract 0 A.size = A
  is : A = ⟨#[]⟩ ∨ ((A.toList == []) = false ∧ findM A = some P)
  more : ∀ i, A.size < i → i ≤ s.size → findM (s.extract 0 i) = none
  beg : ∀ i, i ≤ A.size → begM (A.extract 0 i) = true

theorem long_ok (s : ByteArray) : LongOk s (longT s (longM s)) (longP (longM s)) := by
  cases e : longM s with
  | none =>
    unfold longM at e
    refine ⟨Nat.zero_le _, Nat.zero_le _, ?_, .inl rfl, fun i h1 h2 => ?_, fun i hi => ?_⟩
    · apply data_inj; rw [extract_pre]; rfl
    · exact long_no_more s 0 (fun k k1 k2 => longF_none _ s _ e k k1 k2) i h1 h2
    · have h0 : i = 0 := by
        have : (longT s none).size = 0 := rfl
        omega
      subst h0
      have e0 : ((longT s none).extract 0 0).data.toList = [] := by rw [extract_pre, List.take_zero]
      rw [begM_eq, e0]
      rfl
  | some y =>
    obtain ⟨n, x⟩ := y
    unfold longM at e
    obtain ⟨h1, h2, h3, h4⟩ := longF_some _ s n x _ e
    have hsz : (s.extract 0 n).size = n := by rw [ByteArray.size_extract]; omega
    have hA : longT s (some (n, x)) = s.extract 0 n := rfl
    rw [hA]
    have hL : (s.extract 0 n).data.toList.length = n := by rw [len_data, hsz]
    refine ⟨by omega, by omega, by rw [hsz], .inr ⟨?_, ?_⟩, fun i i1 i2 => ?_, fun i hi => ?_⟩
    · rw [toList_data]
      cases e2 : (s.extract 0 n).data.toList with
      | nil => rw [e2] at hL; simp at hL; omega
      | cons c l => rfl
    · rw [findM_pre s n h1, h3]; rfl
    · rw [hsz] at i1
      exact long_no_more s n h4 i i1 i2
    · rw [begM_eq, bL_iff]
      have hx := List.find?_some h3
      have hm := List.mem_of_find?_eq_some h3
      rw [isB_eq] at hx
      have hp : (s.extract 0 n).data.toList <+: fullL x.1.data.toList := by
        simp only [isL, Bool.or_eq_true, beq_iff_eq] at hx
        rcases hx with hx | hx
        · rw [hx]; exact pre_full _
        · rw [hx]; exact List.prefix_refl _
      cases hl : s.data.toList with
      | nil => rw [hl] at hm; cases hm
      | cons c l =>
        rw [hl] at hm
        have := List.all_eq_true.1 (fulls_tab ⟨c.toNat, c.toNat_lt⟩) x hm
        refine ⟨_, List.contains_iff_mem.1 this, ?_⟩
        rw [extract_pre]
        exact (List.take_prefix _ _).trans hp

set_option maxHeartbeats 2000000 in
theorem prefixes_walk (s A : ByteArray) (P : List Int) (hok : LongOk s A P) (hP : P.length ≤ 1000) (w : World)
    (HL : ∀ w, Calls Try.prog 13 #[.string s] w fun e w' => ∃ v, e = .returned (.tuple #[.string A, v]) ∧ RunesAt w' P v ∧ Below w.heap.size w w') :
    Calls Try.prog 7 #[.string s] w fun e w' => e = .returned (.bool true) ∧ Below w.heap.size w w' := by
  have HLL := hide HL
  have HA := hide awake_any
  have hle : (A.size : Int) ≤ (s.size : Int) := by have := hok.le; omega
  have hsh : (A.size : Int) ≤ 9 := by have := hok.short; omega
  have hpre := hok.pre
  have HMO := hide hok.more
  have HBE := hide hok.beg
  have HPP := hide hP
  have hgt : ¬ ((s.size : Int) < (A.size : Int)) := by omega
  have hgt2 : (decide ((A.size : Int) > (s.size : Int))) = false := decide_eq_false (by omega)
  rcases hok.is with he | ⟨hne, hfi⟩
  · have HF : Hid (∀ w, Calls Try.prog 9 #[.string A] w fun e w' => ∃ v q, e = .returned (.tuple #[v, .bool q]) ∧ Below w.heap.size w w') := hide (fun w => (find_any A w).mono (by
      rintro e w' ⟨v, rfl, _, h⟩; exact ⟨v, _, rfl, h⟩))
    have hne : (A.toList == []) = true := by rw [he, toList_data]; rfl
    have hne2 : (A.toList != []) = false := by rw [bne, hne]; rfl
    clear HL hok hP he
    go_enter Try.func7, Try.ntmps7
    go_wp2_with (first
      | (go_at_call 13; refine (unhide HLL _).mono ?_; rintro e w1 ⟨v1, rfl, hv1, hw1⟩; have HV1 := hide hv1; have HW1 := hide hw1; clear hv1 hw1)
      | (go_at_call 9; refine (unhide HF _).mono ?_; rintro e w2 ⟨v2, q2, rfl, hw2⟩; have HW2 := hide hw2; clear hw2))
    have HW3' : Hid (Below w.heap.size w w2) := hide ((unhide HW1).trans ((unhide HW2).mono (unhide HW1).size))
    generalize decide (s.size < A.size) = dq
    go_loopg [7] (39 - A.size) (fun k s7 wx => ∃ i : Nat, s7 = .int .i64 i ∧ A.size < i ∧ i + k = 40 ∧ Below w.heap.size w wx)
    case atStart => exact ⟨A.size + 1, by go_num, by omega, by omega, unhide HW3'⟩
    case round =>
      clear HW3'
      obtain ⟨i, rfl, hai, hik, hw⟩ := hrel
      have HW5 := hide hw
      have HAI := hide hai
      clear hw hai
      by_cases hi : i ≤ s.size
      · have hiz : (i : Int) ≤ (s.size : Int) := by omega
        by_cases hj : i < 40
        · have hjz : (i : Int) < 40 := by omega
          have HN : Hid (∀ w, Calls Try.prog 9 #[.string (s.extract 0 i)] w fun e w' => ∃ v, e = .returned (.tuple #[v, .bool false]) ∧ Below w.heap.size w w') := hide (fun w => by
            have := find_any (s.extract 0 i) w; rw [unhide HMO i (unhide HAI) hi] at this; exact this.mono (by rintro e w' ⟨v, rfl, _, h⟩; exact ⟨v, rfl, h⟩))
          go_wp2_with (go_at_call 9; refine (unhide HN _).mono ?_; rintro e w6 ⟨v6, rfl, hw6⟩; have HW6 := hide hw6; clear hw6)
          go_roundg (gk - 1)
          case measure => omega
          case rel => exact ⟨i + 1, by go_num, by have := unhide HAI; omega, by omega, (unhide HW5).trans ((unhide HW6).mono (unhide HW5).size)⟩
        · have hjz : ¬ (i : Int) < 40 := by omega
          clear hik
          go_wp2
          go_loopg [10] (A.size + 1) (fun k s10 wx => ∃ i : Nat, s10 = .int .i64 i ∧ i + k = A.size + 1 ∧ Below w.heap.size w wx)
          case atStart => exact ⟨0, rfl, by omega, unhide HW5⟩
          case round =>
            clear HW5
            obtain ⟨i, rfl, hik, hw⟩ := hrel
            have HW5 := hide hw
            clear hw
            by_cases hi : i ≤ A.size
            · have hiz : (i : Int) ≤ (A.size : Int) := by omega
              have HB : Hid (∀ w, Calls Try.prog 15 #[.string (A.extract 0 i)] w fun e w' => e = .returned (.bool true) ∧ Below w.heap.size w w') := hide (fun w => by
                have := begins_any (A.extract 0 i) w; rw [unhide HBE i hi] at this; exact this)
              go_wp2_with (go_at_call 15; refine (unhide HB _).mono ?_; rintro e w6 ⟨rfl, hw6⟩; have HW6 := hide hw6; clear hw6)
              go_roundg (gk - 1)
              case measure => omega
              case rel => exact ⟨i + 1, by go_num, by omega, (unhide HW5).trans ((unhide HW6).mono (unhide HW5).size)⟩
            · have hiz : ¬ (i : Int) ≤ (A.size : Int) := by omega
              go_wp2_with (go_at_call 12; refine (unhide HA _).mono ?_; rintro e w6 ⟨rfl, hw6⟩; have HW6 := hide hw6; clear hw6)
              go_ret
              exact ⟨rfl, (unhide HW5).trans ((unhide HW6).mono (unhide HW5).size)⟩
      · have hiz : ¬ (i : Int) ≤ (s.size : Int) := by omega
        clear hik
        go_wp2
        go_loopg [10] (A.size + 1) (fun k s10 wx => ∃ i : Nat, s10 = .int .i64 i ∧ i + k = A.size + 1 ∧ Below w.heap.size w wx)
        case atStart => exact ⟨0, rfl, by omega, unhide HW5⟩
        case round =>
          clear HW5
          obtain ⟨i, rfl, hik, hw⟩ := hrel
          have HW5 := hide hw
          clear hw
          by_cases hi : i ≤ A.size
          · have hiz : (i : Int) ≤ (A.size : Int) := by omega
            have HB : Hid (∀ w, Calls Try.prog 15 #[.string (A.extract 0 i)] w fun e w' => e = .returned (.bool true) ∧ Below w.heap.size w w') := hide (fun w => by
              have := begins_any (A.extract 0 i) w; rw [unhide HBE i hi] at this; exact this)
            go_wp2_with (go_at_call 15; refine (unhide HB _).mono ?_; rintro e w6 ⟨rfl, hw6⟩; have HW6 := hide hw6; clear hw6)
            go_roundg (gk - 1)
            case measure => omega
            case rel => exact ⟨i + 1, by go_num, by omega, (unhide HW5).trans ((unhide HW6).mono (unhide HW5).size)⟩
          · have hiz : ¬ (i : Int) ≤ (A.size : Int) := by omega
            go_wp2_with (go_at_call 12; refine (unhide HA _).mono ?_; rintro e w6 ⟨rfl, hw6⟩; have HW6 := hide hw6; clear hw6)
            go_ret
            exact ⟨rfl, (unhide HW5).trans ((unhide HW6).mono (unhide HW5).size)⟩
  · have HF : Hid (∀ w, Calls Try.prog 9 #[.string A] w fun e w' => ∃ v, e = .returned (.tuple #[v, .bool true]) ∧ RunesAt w' P v ∧ Below w.heap.size w w') := hide (fun w => by
      have := find_any A w; rw [hfi] at this; exact this)
    have hne2 : (A.toList != []) = true := by rw [bne, hne]; rfl
    clear HL hok hfi hP
    go_enter Try.func7, Try.ntmps7
    go_wp2_with (first
      | (go_at_call 13; refine (unhide HLL _).mono ?_; rintro e w1 ⟨v1, rfl, hv1, hw1⟩; have HV1 := hide hv1; have HW1 := hide hw1; clear hv1 hw1)
      | (go_at_call 9; refine (unhide HF _).mono ?_; rintro e w2 ⟨v2, rfl, hv2, hw2⟩; have HV2 := hide hv2; have HW2 := hide hw2; clear hv2 hw2)
      | (go_at_call 11; refine (runes_any _ P P _ _ ((unhide HV1).keep (unhide HW2)) (unhide HV2) (unhide HPP) (unhide HPP)).mono ?_; rintro e w3 ⟨rfl, hw3⟩; rw [decide_eq_true rfl]; have HW3 := hide hw3; clear hw3))
    have HW3' : Hid (Below w.heap.size w w3) := hide (by have b1 := unhide HW1; have b2 := b1.trans ((unhide HW2).mono b1.size); exact b2.trans ((unhide HW3).mono b2.size))
    generalize decide (s.size < A.size) = dq
    go_loopg [7] (39 - A.size) (fun k s7 wx => ∃ i : Nat, s7 = .int .i64 i ∧ A.size < i ∧ i + k = 40 ∧ Below w.heap.size w wx)
    case atStart => exact ⟨A.size + 1, by go_num, by omega, by omega, unhide HW3'⟩
    case round =>
      clear HW3'
      obtain ⟨i, rfl, hai, hik, hw⟩ := hrel
      have HW5 := hide hw
      have HAI := hide hai
      clear hw hai
      by_cases hi : i ≤ s.size
      · have hiz : (i : Int) ≤ (s.size : Int) := by omega
        by_cases hj : i < 40
        · have hjz : (i : Int) < 40 := by omega
          have HN : Hid (∀ w, Calls Try.prog 9 #[.string (s.extract 0 i)] w fun e w' => ∃ v, e = .returned (.tuple #[v, .bool false]) ∧ Below w.heap.size w w') := hide (fun w => by
            have := find_any (s.extract 0 i) w; rw [unhide HMO i (unhide HAI) hi] at this; exact this.mono (by rintro e w' ⟨v, rfl, _, h⟩; exact ⟨v, rfl, h⟩))
          go_wp2_with (go_at_call 9; refine (unhide HN _).mono ?_; rintro e w6 ⟨v6, rfl, hw6⟩; have HW6 := hide hw6; clear hw6)
          go_roundg (gk - 1)
          case measure => omega
          case rel => exact ⟨i + 1, by go_num, by have := unhide HAI; omega, by omega, (unhide HW5).trans ((unhide HW6).mono (unhide HW5).size)⟩
        · have hjz : ¬ (i : Int) < 40 := by omega
          clear hik
          go_wp2
          go_loopg [10] (A.size + 1) (fun k s10 wx => ∃ i : Nat, s10 = .int .i64 i ∧ i + k = A.size + 1 ∧ Below w.heap.size w wx)
          case atStart => exact ⟨0, rfl, by omega, unhide HW5⟩
          case round =>
            clear HW5
            obtain ⟨i, rfl, hik, hw⟩ := hrel
            have HW5 := hide hw
            clear hw
            by_cases hi : i ≤ A.size
            · have hiz : (i : Int) ≤ (A.size : Int) := by omega
              have HB : Hid (∀ w, Calls Try.prog 15 #[.string (A.extract 0 i)] w fun e w' => e = .returned (.bool true) ∧ Below w.heap.size w w') := hide (fun w => by
                have := begins_any (A.extract 0 i) w; rw [unhide HBE i hi] at this; exact this)
              go_wp2_with (go_at_call 15; refine (unhide HB _).mono ?_; rintro e w6 ⟨rfl, hw6⟩; have HW6 := hide hw6; clear hw6)
              go_roundg (gk - 1)
              case measure => omega
              case rel => exact ⟨i + 1, by go_num, by omega, (unhide HW5).trans ((unhide HW6).mono (unhide HW5).size)⟩
            · have hiz : ¬ (i : Int) ≤ (A.size : Int) := by omega
              go_wp2_with (go_at_call 12; refine (unhide HA _).mono ?_; rintro e w6 ⟨rfl, hw6⟩; have HW6 := hide hw6; clear hw6)
              go_ret
              exact ⟨rfl, (unhide HW5).trans ((unhide HW6).mono (unhide HW5).size)⟩
      · have hiz : ¬ (i : Int) ≤ (s.size : Int) := by omega
        clear hik
        go_wp2
        go_loopg [10] (A.size + 1) (fun k s10 wx => ∃ i : Nat, s10 = .int .i64 i ∧ i + k = A.size + 1 ∧ Below w.heap.size w wx)
        case atStart => exact ⟨0, rfl, by omega, unhide HW5⟩
        case round =>
          clear HW5
          obtain ⟨i, rfl, hik, hw⟩ := hrel
          have HW5 := hide hw
          clear hw
          by_cases hi : i ≤ A.size
          · have hiz : (i : Int) ≤ (A.size : Int) := by omega
            have HB : Hid (∀ w, Calls Try.prog 15 #[.string (A.extract 0 i)] w fun e w' => e = .returned (.bool true) ∧ Below w.heap.size w w') := hide (fun w => by
              have := begins_any (A.extract 0 i) w; rw [unhide HBE i hi] at this; exact this)
            go_wp2_with (go_at_call 15; refine (unhide HB _).mono ?_; rintro e w6 ⟨rfl, hw6⟩; have HW6 := hide hw6; clear hw6)
            go_roundg (gk - 1)
            case measure => omega
            case rel => exact ⟨i + 1, by go_num, by omega, (unhide HW5).trans ((unhide HW6).mono (unhide HW5).size)⟩
          · have hiz : ¬ (i : Int) ≤ (A.size : Int) := by omega
            go_wp2_with (go_at_call 12; refine (unhide HA _).mono ?_; rintro e w6 ⟨rfl, hw6⟩; have HW6 := hide hw6; clear hw6)
            go_ret
            exact ⟨rfl, (unhide HW5).trans ((unhide HW6).mono (unhide HW5).size)⟩
theorem entityPrefixes_walk (s : ByteArray) (w : World) : Calls Try.prog 7 #[.string s] w fun e w' => e = .returned (.bool true) ∧ Below w.heap.size w w' :=
  prefixes_walk s _ _ (long_ok s) (long_short s) w (fun w => longest_any s w)
end Go.Proofs.Ytdhknaiggnafnaa
