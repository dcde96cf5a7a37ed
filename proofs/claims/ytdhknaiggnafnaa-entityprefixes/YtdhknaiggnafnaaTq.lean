/-
  The document's Longest; that both answer the same; EntityLongest: the walk.
-/
import Derived.Test.YtdhknaiggnafnaaTp
namespace Go.Proofs.Ytdhknaiggnafnaa
open Go.RowKit Go.Lib

def refF (s : ByteArray) : Nat → Option (Nat × List Int)
  | 0 => none
  | n + 1 => match refM (s.extract 0 (n + 1)) with
    | some l => some (n + 1, l)
    | none => refF s n
def refT (s : ByteArray) (m : Option (Nat × List Int)) : ByteArray := match m with | some x => s.extract 0 x.1 | none => ⟨#[]⟩
def refP (m : Option (Nat × List Int)) : List Int := match m with | some x => x.2 | none => []

set_option maxHeartbeats 1000000 in
theorem refLongest_any (s : ByteArray) (w : World) : Calls Try.prog 14 #[.string s] w fun e w' => ∃ v, e = .returned (.tuple #[.string (refT s (refF s (min s.size 12))), v]) ∧ RunesAt w' (refP (refF s (min s.size 12))) v ∧ Below w.heap.size w w' := by
  have HR := hide (fun n w => refFind_any (s.extract 0 n) w)
  obtain ⟨n0, hn0⟩ : ∃ n0 : Nat, min s.size 12 = n0 := ⟨_, rfl⟩
  have hn1 : min (s.size : Int) 12 = (n0 : Int) := by omega
  have hn9 : (n0 : Int) ≤ 12 := by omega
  have hns : (n0 : Int) ≤ (s.size : Int) := by omega
  rw [hn0]
  clear hn0
  go_enter Try.func14, Try.ntmps14
  go_wp2
  go_loopg [4] n0 (fun k s4 wx => ∃ n : Nat, s4 = .int .i64 n ∧ n = k ∧ n ≤ n0 ∧ refF s n0 = refF s n ∧ Below w.heap.size w wx)
  case atStart => exact ⟨n0, rfl, rfl, Nat.le_refl _, rfl, Below.refl _ _⟩
  case round =>
    obtain ⟨n, rfl, hnk, hnn, hlong, hw⟩ := hrel
    subst hnk
    have HLO := hide hlong
    have HW := hide hw
    clear hlong hw
    by_cases hn : 0 < n
    · have hnz : (0 : Int) < (n : Int) := by omega
      have hns2 : (n : Int) ≤ (s.size : Int) := by omega
      obtain ⟨m, hm⟩ : ∃ m, n = m + 1 := ⟨n - 1, by omega⟩
      have HM := hide hm
      clear hm
      cases hr : refM (s.extract 0 n) with
      | some l =>
        have HQ := hide hr
        have HF : Hid (∀ w, Calls Try.prog 10 #[.string (s.extract 0 n)] w fun e w' => ∃ v, e = .returned (.tuple #[v, .bool true]) ∧ RunesAt w' l v ∧ Below w.heap.size w w') := hide (fun w => by
          have := unhide HR n w; rw [hr] at this; exact this)
        clear hr
        go_wp2_with (go_at_call 10; refine (unhide HF _).mono ?_; rintro e w2 ⟨v, rfl, hv, hw2⟩; have HV := hide hv; have HW2 := hide hw2; clear hv hw2)
        go_ret2
        have e : refF s n0 = some (n, l) := by
          have hm := unhide HM
          have hq := unhide HQ
          rw [hm] at hq
          rw [unhide HLO, hm, refF, hq]
        rw [e]
        exact ⟨_, rfl, unhide HV, (unhide HW).trans ((unhide HW2).mono (unhide HW).size)⟩
      | none =>
        have HQ := hide hr
        have HF : Hid (∀ w, Calls Try.prog 10 #[.string (s.extract 0 n)] w fun e w' => ∃ v, e = .returned (.tuple #[v, .bool false]) ∧ Below w.heap.size w w') := hide (fun w => by
          have := unhide HR n w; rw [hr] at this; exact this.mono (by rintro e w' ⟨v, rfl, _, h⟩; exact ⟨v, rfl, h⟩))
        clear hr
        go_wp2_with (go_at_call 10; refine (unhide HF _).mono ?_; rintro e w2 ⟨v, rfl, hw2⟩; have HW2 := hide hw2; clear hw2)
        go_roundg m
        case measure => have := unhide HM; omega
        case rel =>
          have hm := unhide HM
          refine ⟨m, by rw [hm]; go_num, rfl, by omega, ?_, (unhide HW).trans ((unhide HW2).mono (unhide HW).size)⟩
          have hq := unhide HQ
          rw [hm] at hq
          rw [unhide HLO, hm, refF, hq]
    · obtain rfl : n = 0 := by omega
      go_wp2
      go_ret2
      rw [unhide HLO]
      exact ⟨_, rfl, .inl ⟨rfl, rfl⟩, unhide HW⟩

theorem extract_pre (s : ByteArray) (n : Nat) : (s.extract 0 n).data.toList = s.data.toList.take n := by
  rw [extract_data, List.drop_zero, Nat.sub_zero]
theorem tabL_pre (l : List UInt8) (n : Nat) (hn : 0 < n) : tabL (l.take n) = tabL l := by
  cases l with
  | nil => cases n <;> rfl
  | cons c l => cases n with
    | zero => omega
    | succ n => rfl
theorem find_pre (s : ByteArray) (n : Nat) (hn : 0 < n) : ((tabL s.data.toList).find? (fun x => isB x.1 (s.extract 0 n))).map ptsOf = refM (s.extract 0 n) := by
  rw [← find_ref]
  unfold findM
  rw [extract_pre, tabL_pre _ n hn]
theorem long_same (s : ByteArray) (n : Nat) : (longF (tabL s.data.toList) s n).map (fun x => (x.1, ptsOf x.2)) = refF s n := by
  induction n with
  | zero => rfl
  | succ n ih =>
    have h := find_pre s (n + 1) (by omega)
    unfold longF refF
    cases e : (tabL s.data.toList).find? (fun x => isB x.1 (s.extract 0 (n + 1))) with
    | some x => rw [e] at h; rw [← h]; rfl
    | none => rw [e] at h; rw [← h]; exact ih
theorem ref_far (s : ByteArray) (n : Nat) (hn : 10 ≤ n) (hs : n ≤ s.size) : refM (s.extract 0 n) = none := by
  rw [refM_eq]
  cases e : refL (s.extract 0 n).data.toList with
  | none => rfl
  | some l =>
    have := (keys_short _ (ref_key _ (by rw [e]; rfl))).2
    rw [extract_pre, List.length_take, len_data] at this
    omega
theorem refF_far (s : ByteArray) (n : Nat) (hn : 9 ≤ n) (hs : n ≤ s.size) : refF s n = refF s 9 := by
  induction n with
  | zero => omega
  | succ n ih =>
    by_cases h : n + 1 = 9
    · rw [h]
    · rw [refF, ref_far s (n + 1) (by omega) hs]
      exact ih (by omega) (by omega)
theorem long_ref (s : ByteArray) : (longM s).map (fun x => (x.1, ptsOf x.2)) = refF s (min s.size 12) := by
  unfold longM
  rw [long_same]
  by_cases h : s.size ≤ 9
  · rw [show min s.size 9 = min s.size 12 by omega]
  · rw [show min s.size 9 = 9 by omega]
    exact (refF_far s _ (by omega) (by omega)).symm
theorem long_text (s : ByteArray) : refT s (refF s (min s.size 12)) = longT s (longM s) := by
  rw [← long_ref]
  cases longM s <;> rfl
theorem long_points (s : ByteArray) : refP (refF s (min s.size 12)) = longP (longM s) := by
  rw [← long_ref]
  cases longM s <;> rfl
theorem long_short (s : ByteArray) : (longP (longM s)).length ≤ 1000 := by
  cases longM s with
  | none => exact Nat.zero_le _
  | some x =>
    show (ptsOf x.2).length ≤ 1000
    unfold ptsOf
    cases secL x.2.1.toList <;> simp

theorem entityLongest_walk (s : ByteArray) (w : World) : Calls Try.prog 4 #[.string s] w fun e w' => e = .returned (.bool true) ∧ Below w.heap.size w w' := by
  have HF : Hid (∀ w, Calls Try.prog 13 #[.string s] w fun e w' => ∃ v, e = .returned (.tuple #[.string (longT s (longM s)), v]) ∧ RunesAt w' (longP (longM s)) v ∧ Below w.heap.size w w') := hide (fun w => longest_any s w)
  have HR := hide (fun w => by have := refLongest_any s w; rw [long_text, long_points] at this; exact this)
  have HP := hide (long_short s)
  have HA := hide awake_any
  generalize longP (longM s) = m at HF HR HP
  generalize longT s (longM s) = t at HF HR
  have hqq : (t.toList == t.toList) = true := beq_self_eq_true _
  go_enter Try.func4, Try.ntmps4
  go_wp2_with (first
    | (go_at_call 13; refine (unhide HF _).mono ?_; rintro e w1 ⟨v1, rfl, hv1, hw1⟩; have HV1 := hide hv1; have HW1 := hide hw1; clear hv1 hw1)
    | (go_at_call 14; refine (unhide HR _).mono ?_; rintro e w2 ⟨v2, rfl, hv2, hw2⟩; have HV2 := hide hv2; have HW2 := hide hw2; clear hv2 hw2)
    | (go_at_call 11; refine (runes_any _ m m _ _ ((unhide HV1).keep (unhide HW2)) (unhide HV2) (unhide HP) (unhide HP)).mono ?_; rintro e w3 ⟨rfl, hw3⟩; rw [decide_eq_true rfl]; have HW3 := hide hw3; clear hw3)
    | (go_at_call 12; refine (unhide HA _).mono ?_; rintro e w4 ⟨rfl, hw4⟩; have HW4 := hide hw4; clear hw4))
  go_ret
  refine ⟨rfl, ?_⟩
  have b1 := unhide HW1
  have b2 := b1.trans ((unhide HW2).mono b1.size)
  have b3 := b2.trans ((unhide HW3).mono b2.size)
  exact b3.trans ((unhide HW4).mono b3.size)
end Go.Proofs.Ytdhknaiggnafnaa
