/-
  The walk of LabelApart.
-/
import Derived.Test.YtdacaedjcfmpdaaDoorLe
namespace Go.Proofs.YtdacaedjcfmpdaaDoor
open Go.RowKit Go.Lib

theorem byte_of {x : Int} (h : (Lit.int .u8 x).wf = true) : ∃ a : UInt8, x = (a.toNat : Int) := by
  have h' : 0 ≤ x ∧ x ≤ 255 := by
    simp [Lit.wf, IntKind.min, IntKind.max] at h
    have h1 := of_decide_eq_true h.1
    have h2 := of_decide_eq_true h.2
    simp [IntKind.signed, IntKind.bits] at h1 h2
    omega
  refine ⟨UInt8.ofNat x.toNat, ?_⟩
  rw [UInt8.toNat_ofNat']
  omega

set_option maxHeartbeats 1000000 in
theorem labelApart_walk (s : ByteArray) (v : UInt8) (w : World) (hs : s.size ≤ 140737488351232) :
    Calls Tryd.prog 6 #[.string s, .int .u8 v.toNat] w fun e w' => e = .returned (.bool true) ∧ Below w.heap.size w w' := by
  have hz : ((⟨#[32]⟩ : ByteArray) ++ s ++ (⟨#[10]⟩ : ByteArray)).size ≤ 9223372036854775807 := by
    rw [ByteArray.size_append, ByteArray.size_append]
    have e1 : (⟨#[32]⟩ : ByteArray).size = 1 := rfl
    have e2 : (⟨#[10]⟩ : ByteArray).size = 1 := rfl
    omega
  have hl : norm ((⟨#[32]⟩ : ByteArray) ++ s ++ (⟨#[10]⟩ : ByteArray)).data.toList = norm s.data.toList := by
    have e : ((⟨#[32]⟩ : ByteArray) ++ s ++ (⟨#[10]⟩ : ByteArray)).data.toList = 32 :: (s.data.toList ++ [10]) := by simp
    rw [e, norm_first _ 32 (by decide), norm_last _ 10 (by decide)]
  have h1 := fun w1 hb => of_from w ((⟨#[32]⟩ : ByteArray) ++ s ++ (⟨#[10]⟩ : ByteArray)) hz w1 hb
  rw [hl] at h1
  have h2 := fun w1 hb => of_from w s (by omega) w1 hb
  have H1 := hide h1
  have H2 := hide h2
  have HB0 := hide (Below.refl w.heap.size w)
  have hq : ¬ 9223372036854775807 < 1 + s.size := by omega
  have hq2 : ¬ 9223372036854775807 < 1 + s.size + 1 := by omega
  generalize norm s.data.toList = t at H1 H2
  generalize ofE t = n at H1 H2
  generalize ofF t = f at H1 H2
  clear h1 h2 hl hz hs
  have hv0 : (0 : Int) ≤ (v.toNat : Int) := by omega
  have hv1 : (v.toNat : Int) ≤ 255 := by have := v.toNat_lt; omega
  obtain ⟨k, hk⟩ : ∃ k : Nat, v.toNat % 7 = k := ⟨_, rfl⟩
  have hk7 : k < 7 := by omega
  have hr : (v.toNat : Int).tmod 7 = k := by
    rw [Int.tmod_eq_emod_of_nonneg hv0]; omega
  have hm : Hid (∀ w1, Calls Tryd.prog 13 #[.int .i64 k] w1 fun e w' => e = .returned (.int .i64 (metaP k)) ∧ w1 = w') := hide (fun w1 => meta_any k w1)
  have hm2 : Hid (∀ w1, Calls Tryd.prog 13 #[.int .i64 (metaP k)] w1 fun e w' => e = .returned (.int .i64 (metaP k)) ∧ w1 = w') := hide (fun w1 => by
    have := meta_any (metaP k) w1
    have e : (if metaP (k : Int) = 1 ∨ metaP (k : Int) = 2 then (0 : Int) else if metaP (k : Int) = 6 then 3 else metaP (k : Int)) = metaP k := by
      unfold metaP
      rcases (by omega : k = 0 ∨ k = 1 ∨ k = 2 ∨ k = 3 ∨ k = 4 ∨ k = 5 ∨ k = 6) with rfl | rfl | rfl | rfl | rfl | rfl | rfl <;> decide
    rw [e] at this
    exact this)
  have g0 : (0 : Int) ≤ metaP k := by
    unfold metaP
    rcases (by omega : k = 0 ∨ k = 1 ∨ k = 2 ∨ k = 3 ∨ k = 4 ∨ k = 5 ∨ k = 6) with rfl | rfl | rfl | rfl | rfl | rfl | rfl <;> decide
  have g7 : metaP k < 7 := by
    unfold metaP
    rcases (by omega : k = 0 ∨ k = 1 ∨ k = 2 ∨ k = 3 ∨ k = 4 ∨ k = 5 ∨ k = 6) with rfl | rfl | rfl | rfl | rfl | rfl | rfl <;> decide
  generalize metaP k = q at hm hm2 g0 g7
  clear hk
  go_enter Tryd.func6, Tryd.ntmps6
  go_wp2_with (first
    | (go_at_call 8; first
        | (refine ((unhide H1) _ (unhide HB1)).mono ?_; rintro e w2 ⟨rfl, hb2⟩; have HB2 := hide hb2; clear hb2)
        | (refine ((unhide H2) _ (unhide HB0)).mono ?_; rintro e w1 ⟨rfl, hb1⟩; have HB1 := hide hb1; clear hb1))
    | (go_at_call 13; first
        | (have _x := unhide HM1; refine ((unhide hm2) _).mono ?_; rintro e w3 ⟨rfl, rfl⟩)
        | (refine ((unhide hm) _).mono ?_; rintro e w3 ⟨rfl, rfl⟩; have HM1 := hide trivial))
    | (go_at_call 10; refine (awake_from w _ (unhide HB2)).mono ?_; rintro e w3 ⟨rfl, hb3⟩; have HB3 := hide hb3; clear hb3))
  go_ret
  exact ⟨rfl, unhide HB3⟩
end Go.Proofs.YtdacaedjcfmpdaaDoor
