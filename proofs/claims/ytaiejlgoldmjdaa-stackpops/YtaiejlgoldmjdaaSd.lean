/-
  A stack of package stack: New, elements popped, put in, swapped and taken out.
-/
import Derived.Test.YtaiejlgoldmjdaaSc
import Derived.Deep.RegionHeld3
namespace Go.Proofs.Ytaiejlgoldmjdaa
open Go.RowKit

theorem topM_nil : topM [] = -1 := rfl
theorem topM_of {L : List Int} (h : L ≠ []) : ∃ x, L[L.length - 1]? = some x ∧ topM L = x := by
  have hl := List.length_pos_iff.2 h
  refine ⟨L[L.length - 1], List.getElem?_eq_getElem (by omega), ?_⟩
  unfold topM
  rw [show ((L.length : Int) - 1) = ((L.length - 1 : Nat) : Int) by omega]
  exact atM_in (List.getElem?_eq_getElem (by omega))

section
variable {w : World} {base bK bA : Nat} {ks : List Key} {L : List Int} {F FA : Nat → Prop}

theorem Good.pos (hg : Good ks L) {x : Int} (hx : x ∈ L) : 0 ≤ x := by
  obtain ⟨i, rfl, _⟩ := elOf_nat (hg.el x hx)
  omega

set_option maxHeartbeats 2000000 in
theorem spop_any (hs : StkS w base bK bA L F) (hg : Good ks L) (hl : L.length ≤ 32768) : Calls Try.prog 25 #[.pointer (some ⟨bK, 0, none⟩)] w fun e w' =>
    e = .returned (.int .i64 (topM L)) ∧ UpdS F w w' base bK bA (popL L) := by
  have HT := hide (stop_any hs (by omega))
  by_cases h0 : L = []
  · subst h0
    rw [topM_nil] at HT ⊢
    have HS := hide hs
    clear hs hg hl
    go_enter Try.func25, Try.ntmps25
    go_wp2_with (go_at_call 23; refine (unhide HT).mono ?_; rintro e w1 ⟨rfl, rfl⟩)
    go_ret
    exact ⟨rfl, (unhide HS).upd (Below.refl _ _)⟩
  · obtain ⟨x, hx, ht⟩ := topM_of h0
    rw [ht] at HT ⊢
    have hpos := hg.pos (List.mem_of_getElem? hx)
    have hne : (x != -1) = true := by rw [bne_iff_ne]; omega
    have HLN : Hid (∀ w1, Below w.heap.size w w1 → Calls Try.prog 21 #[.pointer (some ⟨bK, 0, none⟩)] w1 fun e w' => e = .returned (.int .i64 L.length) ∧ w1 = w') := hide (fun w1 hb => slen_any (hs.below hb))
    obtain ⟨bP, ho⟩ := hs.open
    have HCUT : Hid (∀ w1, Below w.heap.size w w1 → Calls Try.prog 62 #[.pointer (some ⟨bP, 0, none⟩), .int .i64 (IntKind.i64.wrap ((L.length : Int) - 1))] w1 fun e w' => e = .returned (.tuple #[]) ∧ UpdS F w w' base bK bA (popL L)) := hide (fun w1 hb => by
      obtain ⟨_, p, hp, hpl, hup⟩ := ho w1 hb
      subst hp
      have hlen := List.length_pos_iff.2 h0
      rw [show IntKind.i64.wrap ((p.xs.length : Int) - 1) = ((p.xs.length - 1 : Nat) : Int) by rw [IntKind.wrap_i64]; omega]
      refine (cut_any hpl (by omega) (p.xs.length - 1) (by omega)).mono ?_
      rintro e w' ⟨rfl, hu⟩
      exact ⟨rfl, hup _ _ hu⟩)
    have hc := (ho w (Below.refl _ w)).1
    have hlz : (L.length : Int) ≤ 32768 := by omega
    have hlz1 : (1 : Int) ≤ (L.length : Int) := by have := List.length_pos_iff.2 h0; omega
    generalize L.length = n at *
    clear hs hg hl h0 hx ht hpos ho
    go_enter Try.func25, Try.ntmps25
    go_wp2_with (go_at_call 23; refine (unhide HT).mono ?_; rintro e w1 ⟨rfl, rfl⟩)
    go_region_with (first | (go_at_call 21; refine ((unhide HLN) _ (by first | exact Below.refl _ _ | exact (Below.refl _ _).drew | exact below_dn (Below.refl _ _) _ | exact (Below.refl _ _).drew.drew)).mono ?_; rintro e w1 ⟨rfl, rfl⟩) | (go_at_call 62; refine ((unhide HCUT) _ (by first | exact Below.refl _ _ | exact (Below.refl _ _).drew | exact below_dn (Below.refl _ _) _ | exact (Below.refl _ _).drew.drew)).mono ?_; rintro e w2 ⟨rfl, hu⟩; have HU := hide hu; clear hu))
    all_goals go_wp2
    all_goals go_ret
    all_goals exact ⟨rfl, unhide HU⟩

set_option maxHeartbeats 2000000 in
theorem sremove_any (hs : StkS w base bK bA L F) (hg : Good ks L) (hl : L.length ≤ 32768) (id : Int) : Calls Try.prog 27 #[.pointer (some ⟨bK, 0, none⟩), .int .i64 id] w fun e w' =>
    e = .returned (.int .i64 (removeE L id)) ∧ UpdS F w w' base bK bA (removeL L id) := by
  have HF := hide (sfind_any hs (by omega) hg.nodup id)
  obtain ⟨bP, ho⟩ := hs.open
  have HS := hide hs
  have HM : Hid (Calls Try.prog 49 #[.pointer (some ⟨bK, 0, none⟩)] w fun e w' => e = .returned (.bool true) ∧ w = w') := hide (by
    obtain ⟨bP, p, h, _⟩ := hs
    exact made_s h)
  obtain ⟨hc, p, rfl, hpl, hup⟩ := ho w (Below.refl _ w)
  have HUP := hide hup
  unfold removeE removeL
  by_cases hm : id ∈ p.xs
  · obtain ⟨j, hj, hj2, hj3⟩ := findM_in hm
    have hji : p.xs.idxOf id = j := idxOf_at hg.nodup hj2
    rw [if_pos hm, if_pos hm, hji]
    rw [hj] at HF
    have HR := hide (remove_any hpl (by omega) j hj3)
    have hz : (0 : Int) ≤ (j : Int) := by omega
    clear hs ho hpl hup hg hl hm hj hj2 hj3 hji
    go_enter Try.func27, Try.ntmps27
    go_wp2_with (first | (go_at_call 49; refine (unhide HM).mono ?_; rintro e w' ⟨rfl, rfl⟩) | (go_at_call 12; refine (unhide HF).mono ?_; rintro e w' ⟨rfl, rfl⟩) | (go_at_call 70; refine (unhide HR).mono ?_; rintro e w2 ⟨rfl, hu⟩; have HU := hide ((unhide HUP) _ _ hu); clear hu))
    go_ret
    exact ⟨rfl, unhide HU⟩
  · rw [if_neg hm, if_neg hm]
    rw [findM_out hm] at HF
    clear hs ho hpl hup hg hl hm
    go_enter Try.func27, Try.ntmps27
    go_wp2_with (first | (go_at_call 49; refine (unhide HM).mono ?_; rintro e w' ⟨rfl, rfl⟩) | (go_at_call 12; refine (unhide HF).mono ?_; rintro e w' ⟨rfl, rfl⟩))
    go_ret
    exact ⟨rfl, (unhide HS).upd (Below.refl _ _)⟩

set_option maxHeartbeats 2000000 in
theorem sput_any (ha : ArK w base bA ks FA) (hs : StkS w base bK bA L F) (hg : Good ks L) (i id : Int) : Calls Try.prog 28 #[.pointer (some ⟨bK, 0, none⟩), .int .i64 i, .int .i64 id] w fun e w' =>
    e = .returned (.int .i64 (putE ks L i id)) ∧ UpdS F w w' base bK bA (putL ks L i id) := by
  have hl := (Live.mk' ha hs).few hg
  have HE := hide (enter_any (Live.mk' ha hs) hg id)
  have HLN : Hid (∀ w1, Below w.heap.size w w1 → Calls Try.prog 21 #[.pointer (some ⟨bK, 0, none⟩)] w1 fun e w' => e = .returned (.int .i64 L.length) ∧ w1 = w') := hide (fun w1 hb => slen_any (hs.below hb))
  obtain ⟨bP, ho⟩ := hs.open
  have HO := hide ho
  have HS := hide hs
  have HLn := hide hl
  unfold putL putE
  clear ha hs hg ho hl
  by_cases h0 : enterE ks L id = 0
  · rw [h0] at HE ⊢
    simp only [if_true]
    clear h0
    by_cases hi : i < 0
    · rw [if_pos (.inl hi), if_neg (by decide)]
      go_enter Try.func28, Try.ntmps28
      go_wp2_with (go_at_call 56; refine (unhide HE).mono ?_; rintro e w1 ⟨rfl, hb⟩; have HB := hide hb; clear hb)
      go_ret
      exact ⟨rfl, (unhide HS).upd (unhide HB)⟩
    · by_cases hj : (L.length : Int) < i
      · rw [if_pos (.inr hj), if_neg (by decide)]
        generalize L.length = n at *
        go_enter Try.func28, Try.ntmps28
        go_wp2_with (first | (go_at_call 56; refine (unhide HE).mono ?_; rintro e w1 ⟨rfl, hb⟩; have HB := hide hb; clear hb) | (go_at_call 21; refine ((unhide HLN) w1 (unhide HB)).mono ?_; rintro e w' ⟨rfl, rfl⟩))
        go_ret
        exact ⟨rfl, (unhide HS).upd (unhide HB)⟩
      · rw [if_neg (by omega), if_pos rfl]
        obtain ⟨k, rfl⟩ : ∃ k : Nat, i = (k : Int) := ⟨i.toNat, by omega⟩
        rw [Int.toNat_natCast]
        have HK : Hid (k ≤ L.length) := hide (by omega)
        have hnl : ∃ n, L.length = n := ⟨_, rfl⟩
        obtain ⟨n, hn⟩ := hnl
        rw [hn] at HLN hj
        have HNN := hide hn
        clear hn
        go_enter Try.func28, Try.ntmps28
        go_wp2_with (first | (go_at_call 56; refine (unhide HE).mono ?_; rintro e w1 ⟨rfl, hb⟩; have HB := hide hb; obtain ⟨hc1, p, hp, hpl, hup⟩ := (unhide HO) w1 hb; subst hp; have HPL := hide hpl; have HUP := hide hup; clear hb hpl hup) | (go_at_call 21; refine ((unhide HLN) w1 (unhide HB)).mono ?_; rintro e w' ⟨rfl, rfl⟩) | (go_at_call 71; refine (put_any (unhide HPL) (by have := unhide HLn; omega) k (unhide HK) id).mono ?_; rintro e w2 ⟨rfl, hu⟩; have HU := hide ((unhide HUP) _ _ hu); clear hu))
        go_ret
        exact ⟨rfl, unhide HU⟩
  · rw [if_neg h0, if_neg h0]
    have h0' : (enterE ks L id != 0) = true := by simpa using h0
    generalize enterE ks L id = r at *
    clear h0
    go_enter Try.func28, Try.ntmps28
    go_wp2_with (go_at_call 56; refine (unhide HE).mono ?_; rintro e w1 ⟨rfl, hb⟩; have HB := hide hb; clear hb)
    go_ret
    exact ⟨rfl, (unhide HS).upd (unhide HB)⟩

set_option maxHeartbeats 2000000 in
theorem sswap_any (ha : ArK w base bA ks FA) (hs : StkS w base bK bA L F) (hg : Good ks L) (old id : Int) : Calls Try.prog 29 #[.pointer (some ⟨bK, 0, none⟩), .int .i64 old, .int .i64 id] w fun e w' =>
    e = .returned (.int .i64 (swapE ks L old id)) ∧ UpdS F w w' base bK bA (swapL ks L old id) := by
  have hl := (Live.mk' ha hs).few hg
  have HE := hide (enter_any (Live.mk' ha hs) hg id)
  have HF : Hid (∀ w1, Below w.heap.size w w1 → Calls Try.prog 12 #[.pointer (some ⟨bK, 0, none⟩), .int .i64 old] w1 fun e w' => e = .returned (.int .i64 (findM L old)) ∧ w1 = w') := hide (fun w1 hb => sfind_any (hs.below hb) (by omega) hg.nodup old)
  have HM : Hid (∀ w1, Below w.heap.size w w1 → Calls Try.prog 49 #[.pointer (some ⟨bK, 0, none⟩)] w1 fun e w' => e = .returned (.bool true) ∧ w1 = w') := hide (fun w1 hb => by
    obtain ⟨bP, p, h, _⟩ := hs.below hb
    exact made_s h)
  obtain ⟨bP, ho⟩ := hs.open
  have HO := hide ho
  have HS := hide hs
  have HND := hide hg.nodup
  unfold swapL swapE
  clear ha hs hg ho hl
  by_cases hm : old ∈ L
  · obtain ⟨j, hj, hj2, hj3⟩ := findM_in hm
    have hji : L.idxOf old = j := idxOf_at (unhide HND) hj2
    rw [if_pos hm, hji]
    rw [hj] at HF
    have hz : (0 : Int) ≤ (j : Int) := by omega
    have HJ := hide hj3
    clear hm hj hj2 hj3 hji
    by_cases h0 : enterE ks L id = 0
    · rw [h0] at HE ⊢
      simp only [if_true]
      clear h0
      go_enter Try.func29, Try.ntmps29
      go_wp2_with (first | (go_at_call 56; refine (unhide HE).mono ?_; rintro e w1 ⟨rfl, hb⟩; have HB := hide hb; obtain ⟨hc1, p, hp, hpl, hup⟩ := (unhide HO) w1 hb; subst hp; have HPL := hide hpl; have HUP := hide hup; clear hb hpl hup) | (go_at_call 12; refine ((unhide HF) w1 (unhide HB)).mono ?_; rintro e w' ⟨rfl, rfl⟩) | (go_at_call 49; refine ((unhide HM) w1 (unhide HB)).mono ?_; rintro e w' ⟨rfl, rfl⟩) | (go_at_call 72; refine (swap_any (unhide HPL) j (unhide HJ) id).mono ?_; rintro e w2 ⟨rfl, hu⟩; have HU := hide ((unhide HUP) _ _ hu); clear hu))
      go_ret
      exact ⟨rfl, unhide HU⟩
    · rw [if_neg h0]
      have h0' : (enterE ks L id != 0) = true := by simpa using h0
      generalize enterE ks L id = r at *
      clear h0
      go_enter Try.func29, Try.ntmps29
      go_wp2_with (first | (go_at_call 56; refine (unhide HE).mono ?_; rintro e w1 ⟨rfl, hb⟩; have HB := hide hb; clear hb) | (go_at_call 12; refine ((unhide HF) w1 (unhide HB)).mono ?_; rintro e w' ⟨rfl, rfl⟩) | (go_at_call 49; refine ((unhide HM) w1 (unhide HB)).mono ?_; rintro e w' ⟨rfl, rfl⟩))
      go_ret
      exact ⟨rfl, (unhide HS).upd (unhide HB)⟩
  · rw [if_neg hm, if_neg (by decide)]
    rw [findM_out hm] at HF
    generalize enterE ks L id = r at *
    clear hm
    go_enter Try.func29, Try.ntmps29
    go_wp2_with (first | (go_at_call 56; refine (unhide HE).mono ?_; rintro e w1 ⟨rfl, hb⟩; have HB := hide hb; clear hb) | (go_at_call 12; refine ((unhide HF) w1 (unhide HB)).mono ?_; rintro e w' ⟨rfl, rfl⟩) | (go_at_call 49; refine ((unhide HM) w1 (unhide HB)).mono ?_; rintro e w' ⟨rfl, rfl⟩))
    go_ret
    exact ⟨rfl, (unhide HS).upd (unhide HB)⟩

set_option maxHeartbeats 1000000 in
theorem snew_any (ha : ArK w base bA ks FA) (hb : base ≤ w.heap.size) : Calls Try.prog 9 #[.pointer (some ⟨bA, 0, none⟩)] w fun e w' =>
    ∃ bK F, e = .returned (.tuple #[.pointer (some ⟨bK, 0, none⟩), .int .i64 0]) ∧ StkS w' base bK bA [] F ∧ Below w.heap.size w w' ∧ ∀ k, F k → w.heap.size ≤ k := by
  have HL := hide (len_k ha)
  have hpos := ha.most.2
  have hz : ((ks.length : Int) == 0) = false := by rw [beq_eq_false_iff_ne]; omega
  have HB := hide hb
  generalize ks.length = n at *
  clear ha hb hpos
  go_enter Try.func9, Try.ntmps9
  go_wp2_with (go_at_call 16; refine (unhide HL).mono ?_; rintro e w1 ⟨rfl, rfl⟩)
  go_ret2
  have hb := unhide HB
  have h1 := heap_alloc_new w (.cells #[.slice none 0 0] 72)
  have h2 := heap_alloc_new (w.alloc (.cells #[.slice none 0 0] 72)) (.cells #[.pointer (some ⟨bA, 0, none⟩), .pointer (some ⟨w.heap.size, 0, none⟩)] 54)
  rw [World.size_alloc] at h2
  refine ⟨_, _, rfl, ⟨w.heap.size, ⟨none, 0, []⟩, ⟨h2, ⟨(Below.heap_alloc _ _ _ (by simp)).trans h1, PartAt.nil _ _ _, hb⟩, by omega⟩, rfl, fun k => Iff.rfl⟩, ((Below.refl _ w).alloc (Nat.le_refl _) _).alloc (by simp) _, ?_⟩
  rintro k (rfl | rfl | hk)
  · omega
  · omega
  · simp [PartM.own] at hk
end
end Go.Proofs.Ytaiejlgoldmjdaa
