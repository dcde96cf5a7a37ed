/-
  A stack of package stack: New, elements pushed, popped, put in, swapped and taken out.
-/
import Derived.Test.YtaiejlgoldmjdaaSb
namespace Go.Proofs.Ytaiejlgoldmjdaa
open Go.RowKit

def enterE (ks : List Key) (L : List Int) (id : Int) : Int := if (elOf ks id).isSome then (if id ∈ L then 1 else 0) else 6
def pushL (ks : List Key) (L : List Int) (id : Int) : List Int := if enterE ks L id = 0 then L ++ [id] else L
def popL (L : List Int) : List Int := L.take (L.length - 1)
def removeE (L : List Int) (id : Int) : Int := if id ∈ L then 0 else 6
def removeL (L : List Int) (id : Int) : List Int := if id ∈ L then L.take (L.idxOf id) ++ L.drop (L.idxOf id + 1) else L
def putE (ks : List Key) (L : List Int) (i id : Int) : Int := if enterE ks L id = 0 then (if i < 0 ∨ (L.length : Int) < i then 1 else 0) else enterE ks L id
def putL (ks : List Key) (L : List Int) (i id : Int) : List Int := if putE ks L i id = 0 then L.take i.toNat ++ id :: L.drop i.toNat else L
def swapE (ks : List Key) (L : List Int) (old id : Int) : Int := if old ∈ L then enterE ks L id else 6
def swapL (ks : List Key) (L : List Int) (old id : Int) : List Int := if swapE ks L old id = 0 then L.set (L.idxOf old) id else L

section
variable {w : World} {base bK bA : Nat} {ks : List Key} {L : List Int} {F FA : Nat → Prop}

theorem Live.mk' (ha : ArK w base bA ks FA) (hs : StkS w base bK bA L F) : Live w base bK bA ks L := ⟨⟨FA, ha⟩, ⟨F, hs⟩⟩
theorem Live.few (h : Live w base bK bA ks L) (hg : Good ks L) : L.length ≤ 32768 := by
  obtain ⟨⟨FA, ha⟩, _⟩ := h
  exact Nat.le_trans hg.len ha.most.1

theorem has_s (h : Live w base bK bA ks L) (id : Int) : Calls Try.prog 92 #[.pointer (some ⟨bK, 0, none⟩), .int .i64 id] w fun e w' =>
    e = .returned (.bool (elOf ks id).isSome) ∧ Below w.heap.size w w' := by
  have HL := hide (look_any h id)
  generalize calOf ks id = c at *
  generalize (elOf ks id).isSome = r at *
  clear h
  obtain ⟨cs, cn⟩ := c
  go_enter Try.func92, Try.ntmps92
  go_wp2_with (go_at_call 61; refine (unhide HL).mono ?_; rintro e w1 ⟨rfl, hb⟩; have HB := hide hb; clear hb; simp only [Cal.agg])
  go_ret
  exact ⟨rfl, (unhide HB).alloc (unhide HB).size _⟩

set_option maxHeartbeats 1000000 in
theorem enter_any (h : Live w base bK bA ks L) (hg : Good ks L) (id : Int) : Calls Try.prog 56 #[.pointer (some ⟨bK, 0, none⟩), .int .i64 id] w fun e w' =>
    e = .returned (.int .i64 (enterE ks L id)) ∧ Below w.heap.size w w' := by
  have hl := h.few hg
  have HL := hide (has_s h id)
  have HF : Hid (∀ w1, Below w.heap.size w w1 → Calls Try.prog 12 #[.pointer (some ⟨bK, 0, none⟩), .int .i64 id] w1 fun e w' => e = .returned (.int .i64 (findM L id)) ∧ w1 = w') := hide (fun w1 hb => by
    obtain ⟨_, F2, h2⟩ := h.below hb
    exact sfind_any h2 (by omega) hg.nodup id)
  obtain ⟨_, FS, bP, p, hs, rfl, _⟩ := h
  have HM := hide (made_s hs)
  unfold enterE
  clear hs hg hl
  cases he : (elOf ks id).isSome with
  | false =>
    rw [he] at HL
    go_enter Try.func56, Try.ntmps56
    go_wp2_with (first | (go_at_call 49; refine (unhide HM).mono ?_; rintro e w' ⟨rfl, rfl⟩) | (go_at_call 92; refine (unhide HL).mono ?_; rintro e w1 ⟨rfl, hb⟩; have HB := hide hb; clear hb))
    go_ret
    exact ⟨rfl, unhide HB⟩
  | true =>
    rw [he] at HL
    by_cases hm : id ∈ p.xs
    · obtain ⟨j, hj, _⟩ := findM_in hm
      rw [hj] at HF
      rw [if_pos rfl, if_pos hm]
      clear he hm hj
      have hz : (0 : Int) ≤ (j : Int) := by omega
      go_enter Try.func56, Try.ntmps56
      go_wp2_with (first | (go_at_call 49; refine (unhide HM).mono ?_; rintro e w' ⟨rfl, rfl⟩) | (go_at_call 92; refine (unhide HL).mono ?_; rintro e w1 ⟨rfl, hb⟩; have HB := hide hb; clear hb) | (go_at_call 12; refine ((unhide HF) w1 (unhide HB)).mono ?_; rintro e w' ⟨rfl, rfl⟩))
      go_ret
      exact ⟨rfl, unhide HB⟩
    · rw [findM_out hm] at HF
      rw [if_pos rfl, if_neg hm]
      clear he hm
      go_enter Try.func56, Try.ntmps56
      go_wp2_with (first | (go_at_call 49; refine (unhide HM).mono ?_; rintro e w' ⟨rfl, rfl⟩) | (go_at_call 92; refine (unhide HL).mono ?_; rintro e w1 ⟨rfl, hb⟩; have HB := hide hb; clear hb) | (go_at_call 12; refine ((unhide HF) w1 (unhide HB)).mono ?_; rintro e w' ⟨rfl, rfl⟩))
      go_ret
      exact ⟨rfl, unhide HB⟩

/-- The pile's pointer, in whatever world comes of it. -/
theorem StkS.open (h : StkS w base bK bA L F) : ∃ bP, ∀ w1, Below w.heap.size w w1 → w1.cell? ⟨bK, 1, none⟩ = some (.pointer (some ⟨bP, 0, none⟩)) ∧ ∃ p, p.xs = L ∧ PileAt w1 base bP p ∧ ∀ w' L', UpdP w1 w' base bP p L' → UpdS F w w' base bK bA L' := by
  obtain ⟨bP, p, h, rfl, hF⟩ := h
  refine ⟨bP, fun w1 hb => ⟨(h.below hb).cells.2, p, rfl, (h.below hb).pile, fun w' L' hu => ?_⟩⟩
  exact UpdS.after hb ((h.below hb).upd hF hu)

set_option maxHeartbeats 1000000 in
theorem spush_any (ha : ArK w base bA ks FA) (hs : StkS w base bK bA L F) (hg : Good ks L) (id : Int) : Calls Try.prog 18 #[.pointer (some ⟨bK, 0, none⟩), .int .i64 id] w fun e w' =>
    e = .returned (.int .i64 (enterE ks L id)) ∧ UpdS F w w' base bK bA (pushL ks L id) := by
  have hl := (Live.mk' ha hs).few hg
  have HE := hide (enter_any (Live.mk' ha hs) hg id)
  obtain ⟨bP, ho⟩ := hs.open
  have HO := hide ho
  have HS := hide hs
  have HLn := hide hl
  unfold pushL
  clear ha hs hg ho hl
  by_cases h0 : enterE ks L id = 0
  · rw [h0] at HE ⊢
    rw [if_pos rfl]
    clear h0
    go_enter Try.func18, Try.ntmps18
    go_wp2_with (first | (go_at_call 56; refine (unhide HE).mono ?_; rintro e w1 ⟨rfl, hb⟩; obtain ⟨hc1, p, hp, hpl, hup⟩ := (unhide HO) w1 hb; subst hp; have HPL := hide hpl; have HUP := hide hup; clear hb hpl hup) | (go_at_call 57; refine (push_any (unhide HPL) (by have := unhide HLn; omega) id).mono ?_; rintro e w2 ⟨rfl, hu⟩; have HU := hide ((unhide HUP) _ _ hu); clear hu))
    go_ret
    exact ⟨rfl, unhide HU⟩
  · rw [if_neg h0]
    have h0' : (enterE ks L id != 0) = true := by simpa using h0
    generalize enterE ks L id = r at *
    clear h0
    go_enter Try.func18, Try.ntmps18
    go_wp2_with (go_at_call 56; refine (unhide HE).mono ?_; rintro e w1 ⟨rfl, hb⟩; have HB := hide hb; clear hb)
    go_ret
    exact ⟨rfl, (unhide HS).upd (unhide HB)⟩
end
end Go.Proofs.Ytaiejlgoldmjdaa
