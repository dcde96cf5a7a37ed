/-
  A stack of package stack: elements pushed. A stack of package stack: New with an empty memo, elements popped, put in, swapped and taken out.
-/
import Derived.Test.YtmllhebmaldgfaaQSb7
import Derived.Deep.RegionHeld3
namespace Go.Proofs.Ytmllhebmaldgfaa
open Go.RowKit

def enterE (ks : List Key) (L : List Int) (id : Int) : Int := if (elOf ks id).isSome then (if id ∈ L then 1 else 0) else 6
def pushL (ks : List Key) (L : List Int) (id : Int) : List Int := if enterE ks L id = 0 then L ++ [id] else L
def popL (L : List Int) : List Int := L.take (L.length - 1)
def removeE (L : List Int) (id : Int) : Int := if id ∈ L then 0 else 6
def removeL (L : List Int) (id : Int) : List Int := if id ∈ L then L.take (L.idxOf id) ++ L.drop (L.idxOf id + 1) else L
def putE (ks : List Key) (L : List Int) (i id : Int) : Int := if enterE ks L id = 0 then (if i < 0 ∨ (L.length : Int) < i then 1 else 0) else enterE ks L id
def putL (ks : List Key) (L : List Int) (i id : Int) : List Int := if putE ks L i id = 0 then L.take i.toNat ++ id :: L.drop i.toNat else L
def swapE (ks : List Key) (L : List Int) (old id : Int) : Int := if old ∈ L then enterE ks L id else 6
def swapL (ks : List Key) (L : List Int) (old id : Int) : List Int := if swapE ks L old id = 0 then L.set (L.idxOf old) id else L

section
variable {w w1 : World} {base bK bA : Nat} {ks : List Key} {el : Int → Option Cal} {L : List Int} {F FA : Nat → Prop}

theorem Live.mk' (ha : ArK w base bA ks FA) (hs : StkS w base bK bA (elOf ks) L F) : Live w base bK bA ks L := ⟨⟨FA, ha⟩, ⟨F, hs⟩⟩
theorem Live.few (h : Live w base bK bA ks L) (hg : Good ks L) : L.length ≤ 32768 := by
  obtain ⟨⟨FA, ha⟩, _⟩ := h
  exact Nat.le_trans hg.len ha.most.1
theorem StkS.self (h : StkS w base bK bA el L F) : UpdS F w w base bK bA el L := h.upd (Below.refl _ _)
/-- The pile's pointer, behind whatever was done. -/
theorem UpdS.open (h : UpdS F w w1 base bK bA el L) : ∃ bP p, w1.cell? ⟨bK, 1, none⟩ = some (.pointer (some ⟨bP, 0, none⟩)) ∧ p.xs = L ∧ PileAt w1 base bP p ∧ ∀ w' L', UpdP w1 w' base bP p L' → UpdS F w w' base bK bA el L' := by
  obtain ⟨F', ⟨bP, bM, p, v, ms, h1, hc, rfl, hF⟩, hm, hf⟩ := h
  refine ⟨bP, p, h1.cells.2.1, rfl, h1.pile, fun w' L' hu => ?_⟩
  obtain ⟨F2, g1, g2, g3⟩ := h1.upd hc hF hu
  refine ⟨F2, g1, hm.then g2 hf, fun k hk => ?_⟩
  rcases g3 k hk with e | e
  · exact hf k e
  · exact .inr (Nat.le_trans hm.size e)
theorem UpdS.stk (h : UpdS F w w1 base bK bA el L) : ∃ F', StkS w1 base bK bA el L F' := by
  obtain ⟨F', h1, _⟩ := h
  exact ⟨F', h1⟩
theorem UpdS.len (h : UpdS F w w1 base bK bA el L) : Calls Try.prog 22 #[.pointer (some ⟨bK, 0, none⟩)] w1 fun e w' => e = .returned (.int .i64 L.length) ∧ w1 = w' := by
  obtain ⟨F', h1⟩ := h.stk
  exact slen_any h1
theorem UpdS.at (h : UpdS F w w1 base bK bA el L) (i : Int) : Calls Try.prog 57 #[.pointer (some ⟨bK, 0, none⟩), .int .i64 i] w1 fun e w' => e = .returned (.int .i64 (atM L i)) ∧ w1 = w' := by
  obtain ⟨F', h1⟩ := h.stk
  exact sat_any h1 i
theorem UpdS.find (h : UpdS F w w1 base bK bA el L) (hl : L.length ≤ 100000) (hn : L.Nodup) (x : Int) : Calls Try.prog 13 #[.pointer (some ⟨bK, 0, none⟩), .int .i64 x] w1 fun e w' => e = .returned (.int .i64 (findM L x)) ∧ w1 = w' := by
  obtain ⟨F', h1⟩ := h.stk
  exact sfind_any h1 hl hn x
theorem UpdS.made (h : UpdS F w w1 base bK bA el L) : Calls Try.prog 55 #[.pointer (some ⟨bK, 0, none⟩)] w1 fun e w' => e = .returned (.bool true) ∧ w1 = w' := by
  obtain ⟨F', bP, bM, p, v, ms, h1, _⟩ := h.stk
  exact made_s h1
/-- What look leaves, behind whatever was done. -/
theorem UpdS.look (h : UpdS F w w1 base bK bA (elOf ks) L) (ha : ArK w1 base bA ks FA) (id : Int) : Calls Try.prog 68 #[.pointer (some ⟨bK, 0, none⟩), .int .i64 id] w1 fun e w' => e = .returned (.tuple #[knownV ks id, .bool (elOf ks id).isSome]) ∧ UpdS F w w' base bK bA (elOf ks) L := by
  obtain ⟨F', h1, hm, hf⟩ := h
  refine (look_any ha h1 id).mono ?_
  rintro e w' ⟨rfl, F2, g1, g2, g3⟩
  refine ⟨rfl, F2, g1, hm.then g2 hf, fun k hk => ?_⟩
  rcases g3 k hk with e | e
  · exact hf k e
  · exact .inr (Nat.le_trans hm.size e)

theorem has_s (ha : ArK w base bA ks FA) (hs : StkS w base bK bA (elOf ks) L F) (id : Int) : Calls Try.prog 113 #[.pointer (some ⟨bK, 0, none⟩), .int .i64 id] w fun e w' =>
    e = .returned (.bool (elOf ks id).isSome) ∧ UpdS F w w' base bK bA (elOf ks) L := by
  have HL := hide (look_any ha hs id)
  unfold knownV at HL
  generalize (elOf ks id).isSome = r at *
  clear ha hs
  go_enter Try.func113, Try.ntmps113
  go_wp2_with (go_at_call 68; refine (unhide HL).mono ?_; rintro e w1 ⟨rfl, hu⟩; have HU := hide hu; clear hu)
  go_ret
  exact ⟨rfl, (unhide HU).then (below_new _ _)⟩

set_option maxHeartbeats 1000000 in
theorem enter_any (ha : ArK w base bA ks FA) (hs : StkS w base bK bA (elOf ks) L F) (hg : Good ks L) (id : Int) : Calls Try.prog 63 #[.pointer (some ⟨bK, 0, none⟩), .int .i64 id] w fun e w' =>
    e = .returned (.int .i64 (enterE ks L id)) ∧ UpdS F w w' base bK bA (elOf ks) L := by
  have hl := (Live.mk' ha hs).few hg
  have HL := hide (has_s ha hs id)
  have HF : Hid (∀ w1, UpdS F w w1 base bK bA (elOf ks) L → Calls Try.prog 13 #[.pointer (some ⟨bK, 0, none⟩), .int .i64 id] w1 fun e w' => e = .returned (.int .i64 (findM L id)) ∧ w1 = w') := hide (fun w1 hu => hu.find (by omega) hg.nodup id)
  have HM := hide hs.self.made
  unfold enterE
  clear hs hg hl ha
  cases he : (elOf ks id).isSome with
  | false =>
    rw [he] at HL
    go_enter Try.func63, Try.ntmps63
    go_wp2_with (first | (go_at_call 55; refine (unhide HM).mono ?_; rintro e w' ⟨rfl, rfl⟩) | (go_at_call 113; refine (unhide HL).mono ?_; rintro e w1 ⟨rfl, hb⟩; have HB := hide hb; clear hb))
    go_ret
    exact ⟨rfl, unhide HB⟩
  | true =>
    rw [he] at HL
    by_cases hm : id ∈ L
    · obtain ⟨j, hj, _⟩ := findM_in hm
      rw [hj] at HF
      rw [if_pos rfl, if_pos hm]
      clear he hm hj
      have hz : (0 : Int) ≤ (j : Int) := by omega
      go_enter Try.func63, Try.ntmps63
      go_wp2_with (first | (go_at_call 55; refine (unhide HM).mono ?_; rintro e w' ⟨rfl, rfl⟩) | (go_at_call 113; refine (unhide HL).mono ?_; rintro e w1 ⟨rfl, hb⟩; have HB := hide hb; clear hb) | (go_at_call 13; refine ((unhide HF) w1 (unhide HB)).mono ?_; rintro e w' ⟨rfl, rfl⟩))
      go_ret
      exact ⟨rfl, unhide HB⟩
    · rw [findM_out hm] at HF
      rw [if_pos rfl, if_neg hm]
      clear he hm
      go_enter Try.func63, Try.ntmps63
      go_wp2_with (first | (go_at_call 55; refine (unhide HM).mono ?_; rintro e w' ⟨rfl, rfl⟩) | (go_at_call 113; refine (unhide HL).mono ?_; rintro e w1 ⟨rfl, hb⟩; have HB := hide hb; clear hb) | (go_at_call 13; refine ((unhide HF) w1 (unhide HB)).mono ?_; rintro e w' ⟨rfl, rfl⟩))
      go_ret
      exact ⟨rfl, unhide HB⟩

set_option maxHeartbeats 1000000 in
theorem spush_any (ha : ArK w base bA ks FA) (hs : StkS w base bK bA (elOf ks) L F) (hg : Good ks L) (id : Int) : Calls Try.prog 19 #[.pointer (some ⟨bK, 0, none⟩), .int .i64 id] w fun e w' =>
    e = .returned (.int .i64 (enterE ks L id)) ∧ UpdS F w w' base bK bA (elOf ks) (pushL ks L id) := by
  have hl := (Live.mk' ha hs).few hg
  have HE := hide (enter_any ha hs hg id)
  have HLn := hide hl
  unfold pushL
  clear ha hs hg hl
  by_cases h0 : enterE ks L id = 0
  · rw [h0] at HE ⊢
    rw [if_pos rfl]
    clear h0
    go_enter Try.func19, Try.ntmps19
    go_wp2_with (first | (go_at_call 63; refine (unhide HE).mono ?_; rintro e w1 ⟨rfl, hu⟩; obtain ⟨bP, p, hc1, hp, hpl, hup⟩ := hu.open; subst hp; have HPL := hide hpl; have HUP := hide hup; clear hu hpl hup) | (go_at_call 64; refine (push_any (unhide HPL) (by have := unhide HLn; omega) id).mono ?_; rintro e w2 ⟨rfl, hu⟩; have HU := hide ((unhide HUP) _ _ hu); clear hu))
    go_ret
    exact ⟨rfl, unhide HU⟩
  · rw [if_neg h0]
    have h0' : (enterE ks L id != 0) = true := by simpa using h0
    generalize enterE ks L id = r at *
    clear h0
    go_enter Try.func19, Try.ntmps19
    go_wp2_with (go_at_call 63; refine (unhide HE).mono ?_; rintro e w1 ⟨rfl, hb⟩; have HB := hide hb; clear hb)
    go_ret
    exact ⟨rfl, unhide HB⟩
end
end Go.Proofs.Ytmllhebmaldgfaa

namespace Go.Proofs.Ytmllhebmaldgfaa
open Go.RowKit

theorem topM_nil : topM [] = -1 := rfl
theorem topM_of {L : List Int} (h : L ≠ []) : ∃ x, L[L.length - 1]? = some x ∧ topM L = x := by
  have hl := List.length_pos_iff.2 h
  refine ⟨L[L.length - 1], List.getElem?_eq_getElem (by omega), ?_⟩
  unfold topM
  rw [show ((L.length : Int) - 1) = ((L.length - 1 : Nat) : Int) by omega]
  exact atM_in (List.getElem?_eq_getElem (by omega))

section
variable {w : World} {base bK bA : Nat} {ks : List Key} {el : Int → Option Cal} {L : List Int} {F FA : Nat → Prop}

/-- The pile's pointer, in whatever world comes of it. -/
theorem StkS.open (h : StkS w base bK bA el L F) : ∃ bP, ∀ w1, Below w.heap.size w w1 → w1.cell? ⟨bK, 1, none⟩ = some (.pointer (some ⟨bP, 0, none⟩)) ∧ ∃ p, p.xs = L ∧ PileAt w1 base bP p ∧ ∀ w' L', UpdP w1 w' base bP p L' → UpdS F w w' base bK bA el L' := by
  obtain ⟨bP, bM, p, v, ms, h, hc, rfl, hF⟩ := h
  exact ⟨bP, fun w1 hb => ⟨(h.below hb).cells.2.1, p, rfl, (h.below hb).pile, fun w' L' hu => UpdS.after hb ((h.below hb).upd hc hF hu)⟩⟩

theorem Good.pos (hg : Good ks L) {x : Int} (hx : x ∈ L) : 0 ≤ x := by
  obtain ⟨i, rfl, _⟩ := elOf_nat (hg.el x hx)
  omega

set_option maxHeartbeats 2000000 in
theorem spop_any (hs : StkS w base bK bA el L F) (hg : Good ks L) (hl : L.length ≤ 32768) : Calls Try.prog 28 #[.pointer (some ⟨bK, 0, none⟩)] w fun e w' =>
    e = .returned (.int .i64 (topM L)) ∧ UpdS F w w' base bK bA el (popL L) := by
  have HT := hide (stop_any hs (by omega))
  by_cases h0 : L = []
  · subst h0
    rw [topM_nil] at HT ⊢
    have HS := hide hs
    clear hs hg hl
    go_enter Try.func28, Try.ntmps28
    go_wp2_with (go_at_call 24; refine (unhide HT).mono ?_; rintro e w1 ⟨rfl, rfl⟩)
    go_ret
    exact ⟨rfl, (unhide HS).upd (Below.refl _ _)⟩
  · obtain ⟨x, hx, ht⟩ := topM_of h0
    rw [ht] at HT ⊢
    have hpos := hg.pos (List.mem_of_getElem? hx)
    have hne : (x != -1) = true := by rw [bne_iff_ne]; omega
    have HLN : Hid (∀ w1, Below w.heap.size w w1 → Calls Try.prog 22 #[.pointer (some ⟨bK, 0, none⟩)] w1 fun e w' => e = .returned (.int .i64 L.length) ∧ w1 = w') := hide (fun w1 hb => slen_any (hs.below hb))
    obtain ⟨bP, ho⟩ := hs.open
    have HCUT : Hid (∀ w1, Below w.heap.size w w1 → Calls Try.prog 69 #[.pointer (some ⟨bP, 0, none⟩), .int .i64 (IntKind.i64.wrap ((L.length : Int) - 1))] w1 fun e w' => e = .returned (.tuple #[]) ∧ UpdS F w w' base bK bA el (popL L)) := hide (fun w1 hb => by
      obtain ⟨_, p, hp, hpl, hup⟩ := ho w1 hb
      subst hp
      have hlen := List.length_pos_iff.2 h0
      rw [show IntKind.i64.wrap ((p.xs.length : Int) - 1) = ((p.xs.length - 1 : Nat) : Int) by rw [IntKind.wrap_i64]; omega]
      refine (cut_any hpl (by omega) (p.xs.length - 1) (by omega)).mono ?_
      rintro e w' ⟨rfl, hu⟩
      exact ⟨rfl, hup _ _ hu⟩)
    have hc := (ho w (Below.refl _ w)).1
    have hlz : (L.length : Int) ≤ 32768 := by omega
    have hlz1 : (1 : Int) ≤ (L.length : Int) := by have := List.length_pos_iff.2 h0; omega
    generalize L.length = n at *
    clear hs hg hl h0 hx ht hpos ho
    go_enter Try.func28, Try.ntmps28
    go_wp2_with (go_at_call 24; refine (unhide HT).mono ?_; rintro e w1 ⟨rfl, rfl⟩)
    go_region_with (first | (go_at_call 22; refine ((unhide HLN) _ (by first | exact Below.refl _ _ | exact (Below.refl _ _).drew | exact below_dn (Below.refl _ _) _ | exact (Below.refl _ _).drew.drew)).mono ?_; rintro e w1 ⟨rfl, rfl⟩) | (go_at_call 69; refine ((unhide HCUT) _ (by first | exact Below.refl _ _ | exact (Below.refl _ _).drew | exact below_dn (Below.refl _ _) _ | exact (Below.refl _ _).drew.drew)).mono ?_; rintro e w2 ⟨rfl, hu⟩; have HU := hide hu; clear hu))
    all_goals go_wp2
    all_goals go_ret
    all_goals exact ⟨rfl, unhide HU⟩

set_option maxHeartbeats 2000000 in
theorem sremove_any (hs : StkS w base bK bA el L F) (hg : Good ks L) (hl : L.length ≤ 32768) (id : Int) : Calls Try.prog 41 #[.pointer (some ⟨bK, 0, none⟩), .int .i64 id] w fun e w' =>
    e = .returned (.int .i64 (removeE L id)) ∧ UpdS F w w' base bK bA el (removeL L id) := by
  have HF := hide (sfind_any hs (by omega) hg.nodup id)
  obtain ⟨bP, ho⟩ := hs.open
  have HS := hide hs
  have HM : Hid (Calls Try.prog 55 #[.pointer (some ⟨bK, 0, none⟩)] w fun e w' => e = .returned (.bool true) ∧ w = w') := hide (by
    exact hs.self.made)
  obtain ⟨hc, p, rfl, hpl, hup⟩ := ho w (Below.refl _ w)
  have HUP := hide hup
  unfold removeE removeL
  by_cases hm : id ∈ p.xs
  · obtain ⟨j, hj, hj2, hj3⟩ := findM_in hm
    have hji : p.xs.idxOf id = j := idxOf_at hg.nodup hj2
    rw [if_pos hm, if_pos hm, hji]
    rw [hj] at HF
    have HR := hide (remove_any hpl (by omega) j hj3)
    have hz : (0 : Int) ≤ (j : Int) := by omega
    clear hs ho hpl hup hg hl hm hj hj2 hj3 hji
    go_enter Try.func41, Try.ntmps41
    go_wp2_with (first | (go_at_call 55; refine (unhide HM).mono ?_; rintro e w' ⟨rfl, rfl⟩) | (go_at_call 13; refine (unhide HF).mono ?_; rintro e w' ⟨rfl, rfl⟩) | (go_at_call 100; refine (unhide HR).mono ?_; rintro e w2 ⟨rfl, hu⟩; have HU := hide ((unhide HUP) _ _ hu); clear hu))
    go_ret
    exact ⟨rfl, unhide HU⟩
  · rw [if_neg hm, if_neg hm]
    rw [findM_out hm] at HF
    clear hs ho hpl hup hg hl hm
    go_enter Try.func41, Try.ntmps41
    go_wp2_with (first | (go_at_call 55; refine (unhide HM).mono ?_; rintro e w' ⟨rfl, rfl⟩) | (go_at_call 13; refine (unhide HF).mono ?_; rintro e w' ⟨rfl, rfl⟩))
    go_ret
    exact ⟨rfl, (unhide HS).upd (Below.refl _ _)⟩

set_option maxHeartbeats 2000000 in
theorem sput_any (ha : ArK w base bA ks FA) (hs : StkS w base bK bA (elOf ks) L F) (hg : Good ks L) (i id : Int) : Calls Try.prog 43 #[.pointer (some ⟨bK, 0, none⟩), .int .i64 i, .int .i64 id] w fun e w' =>
    e = .returned (.int .i64 (putE ks L i id)) ∧ UpdS F w w' base bK bA (elOf ks) (putL ks L i id) := by
  have hl := (Live.mk' ha hs).few hg
  have HE := hide (enter_any ha hs hg id)
  have HLN : Hid (∀ w1, UpdS F w w1 base bK bA (elOf ks) L → Calls Try.prog 22 #[.pointer (some ⟨bK, 0, none⟩)] w1 fun e w' => e = .returned (.int .i64 L.length) ∧ w1 = w') := hide (fun w1 hb => hb.len)
  have HLn := hide hl
  unfold putL putE
  clear ha hs hg hl
  by_cases h0 : enterE ks L id = 0
  · rw [h0] at HE ⊢
    simp only [if_true]
    clear h0
    by_cases hi : i < 0
    · rw [if_pos (.inl hi), if_neg (by decide)]
      go_enter Try.func43, Try.ntmps43
      go_wp2_with (go_at_call 63; refine (unhide HE).mono ?_; rintro e w1 ⟨rfl, hb⟩; have HB := hide hb; clear hb)
      go_ret
      exact ⟨rfl, unhide HB⟩
    · by_cases hj : (L.length : Int) < i
      · rw [if_pos (.inr hj), if_neg (by decide)]
        generalize L.length = n at *
        go_enter Try.func43, Try.ntmps43
        go_wp2_with (first | (go_at_call 63; refine (unhide HE).mono ?_; rintro e w1 ⟨rfl, hb⟩; have HB := hide hb; clear hb) | (go_at_call 22; refine ((unhide HLN) w1 (unhide HB)).mono ?_; rintro e w' ⟨rfl, rfl⟩))
        go_ret
        exact ⟨rfl, unhide HB⟩
      · rw [if_neg (by omega), if_pos rfl]
        obtain ⟨k, rfl⟩ : ∃ k : Nat, i = (k : Int) := ⟨i.toNat, by omega⟩
        rw [Int.toNat_natCast]
        have HK : Hid (k ≤ L.length) := hide (by omega)
        have hnl : ∃ n, L.length = n := ⟨_, rfl⟩
        obtain ⟨n, hn⟩ := hnl
        rw [hn] at HLN hj
        have HNN := hide hn
        clear hn
        go_enter Try.func43, Try.ntmps43
        go_wp2_with (first | (go_at_call 63; refine (unhide HE).mono ?_; rintro e w1 ⟨rfl, hb⟩; have HB := hide hb; obtain ⟨bP, p, hc1, hp, hpl, hup⟩ := hb.open; subst hp; have HPL := hide hpl; have HUP := hide hup; clear hb hpl hup) | (go_at_call 22; refine ((unhide HLN) w1 (unhide HB)).mono ?_; rintro e w' ⟨rfl, rfl⟩) | (go_at_call 101; refine (put_any (unhide HPL) (by have := unhide HLn; omega) k (unhide HK) id).mono ?_; rintro e w2 ⟨rfl, hu⟩; have HU := hide ((unhide HUP) _ _ hu); clear hu))
        go_ret
        exact ⟨rfl, unhide HU⟩
  · rw [if_neg h0, if_neg h0]
    have h0' : (enterE ks L id != 0) = true := by simpa using h0
    generalize enterE ks L id = r at *
    clear h0
    go_enter Try.func43, Try.ntmps43
    go_wp2_with (go_at_call 63; refine (unhide HE).mono ?_; rintro e w1 ⟨rfl, hb⟩; have HB := hide hb; clear hb)
    go_ret
    exact ⟨rfl, unhide HB⟩

set_option maxHeartbeats 2000000 in
theorem sswap_any (ha : ArK w base bA ks FA) (hs : StkS w base bK bA (elOf ks) L F) (hg : Good ks L) (old id : Int) : Calls Try.prog 45 #[.pointer (some ⟨bK, 0, none⟩), .int .i64 old, .int .i64 id] w fun e w' =>
    e = .returned (.int .i64 (swapE ks L old id)) ∧ UpdS F w w' base bK bA (elOf ks) (swapL ks L old id) := by
  have hl := (Live.mk' ha hs).few hg
  have HE := hide (enter_any ha hs hg id)
  have HF : Hid (∀ w1, UpdS F w w1 base bK bA (elOf ks) L → Calls Try.prog 13 #[.pointer (some ⟨bK, 0, none⟩), .int .i64 old] w1 fun e w' => e = .returned (.int .i64 (findM L old)) ∧ w1 = w') := hide (fun w1 hb => hb.find (by omega) hg.nodup old)
  have HM : Hid (∀ w1, UpdS F w w1 base bK bA (elOf ks) L → Calls Try.prog 55 #[.pointer (some ⟨bK, 0, none⟩)] w1 fun e w' => e = .returned (.bool true) ∧ w1 = w') := hide (fun w1 hb => hb.made)
  have HND := hide hg.nodup
  unfold swapL swapE
  clear ha hs hg hl
  by_cases hm : old ∈ L
  · obtain ⟨j, hj, hj2, hj3⟩ := findM_in hm
    have hji : L.idxOf old = j := idxOf_at (unhide HND) hj2
    rw [if_pos hm, hji]
    rw [hj] at HF
    have hz : (0 : Int) ≤ (j : Int) := by omega
    have HJ := hide hj3
    clear hm hj hj2 hj3 hji
    by_cases h0 : enterE ks L id = 0
    · rw [h0] at HE ⊢
      simp only [if_true]
      clear h0
      go_enter Try.func45, Try.ntmps45
      go_wp2_with (first | (go_at_call 63; refine (unhide HE).mono ?_; rintro e w1 ⟨rfl, hb⟩; have HB := hide hb; obtain ⟨bP, p, hc1, hp, hpl, hup⟩ := hb.open; subst hp; have HPL := hide hpl; have HUP := hide hup; clear hb hpl hup) | (go_at_call 13; refine ((unhide HF) w1 (unhide HB)).mono ?_; rintro e w' ⟨rfl, rfl⟩) | (go_at_call 55; refine ((unhide HM) w1 (unhide HB)).mono ?_; rintro e w' ⟨rfl, rfl⟩) | (go_at_call 102; refine (swap_any (unhide HPL) j (unhide HJ) id).mono ?_; rintro e w2 ⟨rfl, hu⟩; have HU := hide ((unhide HUP) _ _ hu); clear hu))
      go_ret
      exact ⟨rfl, unhide HU⟩
    · rw [if_neg h0]
      have h0' : (enterE ks L id != 0) = true := by simpa using h0
      generalize enterE ks L id = r at *
      clear h0
      go_enter Try.func45, Try.ntmps45
      go_wp2_with (first | (go_at_call 63; refine (unhide HE).mono ?_; rintro e w1 ⟨rfl, hb⟩; have HB := hide hb; clear hb) | (go_at_call 13; refine ((unhide HF) w1 (unhide HB)).mono ?_; rintro e w' ⟨rfl, rfl⟩) | (go_at_call 55; refine ((unhide HM) w1 (unhide HB)).mono ?_; rintro e w' ⟨rfl, rfl⟩))
      go_ret
      exact ⟨rfl, unhide HB⟩
  · rw [if_neg hm, if_neg (by decide)]
    rw [findM_out hm] at HF
    generalize enterE ks L id = r at *
    clear hm
    go_enter Try.func45, Try.ntmps45
    go_wp2_with (first | (go_at_call 63; refine (unhide HE).mono ?_; rintro e w1 ⟨rfl, hb⟩; have HB := hide hb; clear hb) | (go_at_call 13; refine ((unhide HF) w1 (unhide HB)).mono ?_; rintro e w' ⟨rfl, rfl⟩) | (go_at_call 55; refine ((unhide HM) w1 (unhide HB)).mono ?_; rintro e w' ⟨rfl, rfl⟩))
    go_ret
    exact ⟨rfl, unhide HB⟩

set_option maxHeartbeats 1000000 in
theorem snew_any (ha : ArK w base bA ks FA) (hb : base ≤ w.heap.size) : Calls Try.prog 10 #[.pointer (some ⟨bA, 0, none⟩)] w fun e w' =>
    ∃ bK F, e = .returned (.tuple #[.pointer (some ⟨bK, 0, none⟩), .int .i64 0]) ∧ (∀ el, StkS w' base bK bA el [] F) ∧ Below w.heap.size w w' ∧ ∀ k, F k → w.heap.size ≤ k := by
  have HL := hide (len_k ha)
  have hpos := ha.most.2
  have hz : ((ks.length : Int) == 0) = false := by rw [beq_eq_false_iff_ne]; omega
  have HB := hide hb
  generalize ks.length = n at *
  clear ha hb hpos
  go_enter Try.func10, Try.ntmps10
  go_wp2_with (go_at_call 17; refine (unhide HL).mono ?_; rintro e w1 ⟨rfl, rfl⟩)
  go_ret2
  have hb := unhide HB
  have e1 := heap_alloc_new w (.cells #[.slice none 0 0] 79)
  have e2 := heap_alloc_new (w.alloc (.cells #[.slice none 0 0] 79)) (.cells #[] 103)
  have e3 := heap_alloc_new ((w.alloc (.cells #[.slice none 0 0] 79)).alloc (.cells #[] 103)) (.cells #[.slice (some ⟨w.heap.size + 1, 0, none⟩) 0 0] 81)
  have e4 := heap_alloc_new (((w.alloc (.cells #[.slice none 0 0] 79)).alloc (.cells #[] 103)).alloc (.cells #[.slice (some ⟨w.heap.size + 1, 0, none⟩) 0 0] 81)) (.cells #[.pointer (some ⟨bA, 0, none⟩), .pointer (some ⟨w.heap.size, 0, none⟩), .pointer (some ⟨w.heap.size + 1 + 1, 0, none⟩)] 83)
  simp only [World.size_alloc] at e2 e3 e4
  have u1 : ∀ (o2 o3 o4 : Obj), ((((w.alloc (.cells #[.slice none 0 0] 79)).alloc o2).alloc o3).alloc o4).heap[w.heap.size]? = some (.cells #[.slice none 0 0] 79 (0, 0)) := fun o2 o3 o4 => (Below.heap_alloc _ _ _ (by simp only [World.size_alloc]; omega)).trans ((Below.heap_alloc _ _ _ (by simp only [World.size_alloc]; omega)).trans ((Below.heap_alloc _ _ _ (by simp only [World.size_alloc]; omega)).trans e1))
  have u2 : ∀ (o3 o4 : Obj), ((((w.alloc (.cells #[.slice none 0 0] 79)).alloc (.cells #[] 103)).alloc o3).alloc o4).heap[w.heap.size + 1]? = some (.cells #[] 103 (0, 0)) := fun o3 o4 => (Below.heap_alloc _ _ _ (by simp only [World.size_alloc]; omega)).trans ((Below.heap_alloc _ _ _ (by simp only [World.size_alloc]; omega)).trans e2)
  have u3 : ∀ (o4 : Obj), ((((w.alloc (.cells #[.slice none 0 0] 79)).alloc (.cells #[] 103)).alloc (.cells #[.slice (some ⟨w.heap.size + 1, 0, none⟩) 0 0] 81)).alloc o4).heap[w.heap.size + 1 + 1]? = some (.cells #[.slice (some ⟨w.heap.size + 1, 0, none⟩) 0 0] 81 (0, 0)) := fun o4 => (Below.heap_alloc _ _ _ (by simp only [World.size_alloc]; omega)).trans e3
  refine ⟨w.heap.size + 1 + 1 + 1, footS (w.heap.size + 1 + 1 + 1) w.heap.size (w.heap.size + 1 + 1) ⟨none, 0, []⟩ (.slice (some ⟨w.heap.size + 1, 0, none⟩) 0 0), rfl, fun el => ⟨w.heap.size, w.heap.size + 1 + 1, ⟨none, 0, []⟩, _, [], ⟨e4, ⟨u1 _ _ _, PartAt.nil _ _ _, hb⟩, ⟨u3 _, ⟨rfl, .inr ⟨_, _, #[], rfl, by omega, u2 _ _, Nat.zero_le _, by simp, rfl, rfl⟩⟩, by omega⟩, ?_, by omega⟩, Coh.nil el, rfl, fun k => Iff.rfl⟩, (((below_new w _).alloc (by simp only [World.size_alloc]; omega) _).alloc (by simp only [World.size_alloc]; omega) _).alloc (by simp only [World.size_alloc]; omega) _, ?_⟩
  · rintro k (rfl | hk) (e | e)
    · omega
    · simp only [Value.ownBlock, Option.some.injEq] at e; omega
    · simp [PartM.own] at hk
    · simp [PartM.own] at hk
  · rintro k (rfl | (rfl | hk) | (rfl | hk))
    · omega
    · omega
    · simp [PartM.own] at hk
    · omega
    · simp only [Value.ownBlock, Option.some.injEq] at hk; omega
end
end Go.Proofs.Ytmllhebmaldgfaa
