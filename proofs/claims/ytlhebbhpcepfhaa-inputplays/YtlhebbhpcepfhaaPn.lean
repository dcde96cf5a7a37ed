/-
  The law's helpers: awake, plain, runes.
-/
import Derived.Test.YtlhebbhpcepfhaaPm
namespace Go.Proofs.Ytlhebbhpcepfhaa
open Go.RowKit

theorem feed_new97 : feedM newM [97] = (0, ⟨[[97]], false, false, false⟩) := by rfl

set_option maxHeartbeats 1000000 in
theorem awake_any (w : World) : Calls Try.prog 14 #[] w fun e w' => e = .returned (.bool true) ∧ Below w.heap.size w w' := by
  have HN := hide (new_s w w.heap.size (Nat.le_refl _))
  go_enter Try.func14, Try.ntmps14
  go_wp2_with (first
    | (go_at_call 9; go_must (refine (unhide HN).mono ?_); rintro e w1 ⟨bS, F, rfl, hs, hb, hk⟩; have HS := hide hs; have HB := hide hb; have HK := hide hk; clear hs hb hk)
    | (go_at_call 16; go_must (refine (feed_s (l := [97]) ((unhide HS).below ((Below.refl _ w1).alloc (Nat.le_refl _) (.cells #[.int .i32 97] 21))) (some ⟨w1.heap.size, 0, none⟩) 1 (one_rune w1 97) (by intro b off _ e h; cases e; have := ((unhide HS).lt h).2; omega)).mono ?_); rw [feed_new97]; rintro e w2 ⟨rfl, hu⟩; have HU := hide hu; clear hu)
    | (go_at_call 12; go_must (obtain ⟨F', hs2, hm2, hk2⟩ := unhide HU); go_must (refine (len_s hs2).mono ?_); rintro e w3 ⟨rfl, rfl⟩; have HM2 := hide hm2; clear hm2 hk2 hs2))
  go_ret
  refine ⟨rfl, ?_⟩
  have B1 : Below w.heap.size w (w1.alloc (.cells #[.int .i32 97] 21)) := (unhide HB).alloc (unhide HB).size _
  exact B1.trans ((unhide HM2).below B1.size (unhide HK))

/-- Code points that may come, few enough. -/
def plainF (l : List Int) : List Int := l.filter fun x => x != -1
def plainM (l : List Int) : List Int := (plainF l).take 5000

theorem plain_end {l : List Int} {i : Nat} (h : i = l.length ∨ (plainF (l.take i)).length = 5000) (hl : (plainF (l.take i)).length ≤ 5000) : plainF (l.take i) = plainM l := by
  unfold plainM
  have e : plainF l = plainF (l.take i) ++ plainF (l.drop i) := by unfold plainF; rw [← List.filter_append, List.take_append_drop]
  rcases h with rfl | h
  · rw [List.take_length] at hl ⊢
    rw [List.take_of_length_le hl]
  · rw [e, List.take_left' h]
theorem plainF_snoc {l : List Int} {i : Nat} (h : i < l.length) : plainF (l.take (i + 1)) = plainF (l.take i) ++ (if l[i] != -1 then [l[i]] else []) := by
  rw [take_next h]
  unfold plainF
  rw [List.filter_append]
  simp only [List.filter_cons, List.filter_nil]

set_option maxHeartbeats 2000000 in
theorem plain_any (w : World) (a : Option Addr) (l : List Int) (c : Nat) (hr : RunesIn w a l) (hl : l.length ≤ 35184372088832) :
    Calls Try.prog 15 #[.slice a l.length c] w fun e w' => ∃ p, e = .returned p.val ∧ PartAt w' w.heap.size p ∧ p.xs = plainM l ∧ Below w.heap.size w w' := by
  have HR := hide hr
  have HL := hide hl
  clear hr hl
  go_enter Try.func15, Try.ntmps15
  go_wp2
  go_loopg [3, 4] l.length (fun gx s3 s4 wx => ∃ (i : Nat) (q : PartM), s4 = .int .i64 i ∧ s3 = q.val ∧ i + gx = l.length ∧ PartAt wx w.heap.size q ∧ q.xs = plainF (l.take i) ∧ q.xs.length ≤ 5000 ∧ Below w.heap.size w wx)
  case atStart => exact ⟨0, ⟨none, 0, []⟩, rfl, rfl, by omega, PartAt.nil _ _ _, by simp [plainF], by simp, Below.refl _ _⟩
  case round =>
    obtain ⟨i, q, rfl, rfl, hig, hq, hx, h5, hb⟩ := hrel
    have HG := hide hig
    have HQ := hide hq
    have HX := hide hx
    have HB := hide hb
    have H5 := hide h5
    have hval : q.val = .slice q.a q.xs.length q.cap := rfl
    by_cases hil : i < l.length
    · have hiz : (i : Int) < (l.length : Int) := by omega
      have hw1 : IntKind.i64.wrap ((i : Int) + 1) = (i : Int) + 1 := by have := unhide HL; rw [IntKind.wrap_i64]; omega
      by_cases h5k : q.xs.length < 5000
      · have h5z : (q.xs.length : Int) < 5000 := by omega
        obtain ⟨b, off, ha, hcell⟩ := ((unhide HR).below hb) i l[i] (List.getElem?_eq_getElem hil)
        obtain ⟨r, hrr⟩ : ∃ r, r = l[i] := ⟨_, rfl⟩
        have HSN : Hid (plainF (l.take (i + 1)) = plainF (l.take i) ++ (if r != -1 then [r] else [])) := hide (by rw [hrr]; exact plainF_snoc hil)
        rw [← hrr] at hcell
        have HI := hide hil
        have HK := hide h5k
        subst ha
        clear hq hx h5 hb hig h5k hrr
        rcases Bool.eq_false_or_eq_true (r != -1) with hne | hne
        · have HSN2 : Hid (plainF (l.take (i + 1)) = plainF (l.take i) ++ [r]) := hide (by rw [unhide HSN, hne]; rfl)
          clear HSN
          have hne' : (r == -1) = false := by simpa [bne] using hne
          rw [hval]
          go_wp2_with (at_builtin; go_must (refine wpList_part_append (base := w.heap.size) (p := q) (by rfl) _ _ (by rfl) (by rfl) (some ⟨wr.heap.size, 0, none⟩) [r] 1 (by rfl) (by exact (unhide HQ).below ((Below.refl _ _).alloc (Nat.le_refl _) _)) (by have := (unhide HB).size; simp; omega) (by exact one_rune wr r) (by have := unhide HK; simp; omega) ?_); intro q' w3 g1 g2 g3 g4 g5; have HN1 := hide g1; have HN2 := hide g2; have HN3 := hide g3; clear g1 g2 g3 g4 g5)
          go_roundg (gk - 1)
          case measure => have := unhide HG; have := unhide HI; omega
          case rel =>
            refine ⟨i + 1, q', by go_num, rfl, by have := unhide HG; have := unhide HI; omega, unhide HN1, by rw [unhide HN2, unhide HX, unhide HSN2], by rw [unhide HN2, List.length_append]; have := unhide HK; simp; omega, ?_⟩
            have B1 := (unhide HB).alloc (unhide HB).size (.cells #[.int .i32 r] 21)
            exact B1.trans ((Mod.grown (F := fun k => q.own = some k) (unhide HN3) (fun k hk => hk)).below B1.size (fun k hk => ((unhide HQ).own_lt hk).1))
        · have HSN2 : Hid (plainF (l.take (i + 1)) = plainF (l.take i)) := hide (by rw [unhide HSN, hne]; simp)
          clear HSN
          have hne' : (r == -1) = true := by simpa [bne] using hne
          rw [hval]
          go_wp2
          go_roundg (gk - 1)
          case measure => have := unhide HG; have := unhide HI; omega
          case rel => exact ⟨i + 1, q, by go_num, rfl, by have := unhide HG; have := unhide HI; omega, unhide HQ, by rw [unhide HX, unhide HSN2], unhide H5, unhide HB⟩
      · have h5z : ¬ (q.xs.length : Int) < 5000 := by omega
        have HE := hide (plain_end (l := l) (i := i) (.inr (by rw [← hx]; omega)) (by rw [← hx]; omega))
        clear hq hx h5 hb hig h5k
        rw [hval]
        go_wp2
        go_ret
        exact ⟨q, rfl, unhide HQ, by rw [unhide HX, unhide HE], unhide HB⟩
    · have hiz : ¬ (i : Int) < (l.length : Int) := by omega
      have HE := hide (plain_end (l := l) (i := i) (.inl (by omega)) (by rw [← hx]; omega))
      clear hq hx h5 hb hig
      rw [hval]
      go_wp2
      go_ret
      exact ⟨q, rfl, unhide HQ, by rw [unhide HX, unhide HE], unhide HB⟩
end Go.Proofs.Ytlhebbhpcepfhaa
