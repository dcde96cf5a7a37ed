/-
  A stack of package stack: elements pushed.
-/
import Derived.Test.YtmllhebmaldgfaaSb7
namespace Go.Proofs.Ytmllhebmaldgfaa
open Go.RowKit

def enterE (ks : List Key) (L : List Int) (id : Int) : Int := if (elOf ks id).isSome then (if id ∈ L then 1 else 0) else 6
def pushL (ks : List Key) (L : List Int) (id : Int) : List Int := if enterE ks L id = 0 then L ++ [id] else L
def popL (L : List Int) : List Int := L.take (L.length - 1)
def removeE (L : List Int) (id : Int) : Int := if id ∈ L then 0 else 6
def removeL (L : List Int) (id : Int) : List Int := if id ∈ L then L.take (L.idxOf id) ++ L.drop (L.idxOf id + 1) else L
def putE (ks : List Key) (L : List Int) (i id : Int) : Int := if enterE ks L id = 0 then (if i < 0 ∨ (L.length : Int) < i then 1 else 0) else enterE ks L id
def putL (ks : List Key) (L : List Int) (i id : Int) : List Int := if putE ks L i id = 0 then L.take i.toNat ++ id :: L.drop i.toNat else L
def swapE (ks : List Key) (L : List Int) (old id : Int) : Int := if old ∈ L then enterE ks L id else 6
def swapL (ks : List Key) (L : List Int) (old id : Int) : List Int := if swapE ks L old id = 0 then L.set (L.idxOf old) id else L

section
variable {w w1 : World} {base bK bA : Nat} {ks : List Key} {el : Int → Option Cal} {L : List Int} {F FA : Nat → Prop}

theorem Live.mk' (ha : ArK w base bA ks FA) (hs : StkS w base bK bA (elOf ks) L F) : Live w base bK bA ks L := ⟨⟨FA, ha⟩, ⟨F, hs⟩⟩
theorem Live.few (h : Live w base bK bA ks L) (hg : Good ks L) : L.length ≤ 32768 := by
  obtain ⟨⟨FA, ha⟩, _⟩ := h
  exact Nat.le_trans hg.len ha.most.1
theorem StkS.self (h : StkS w base bK bA el L F) : UpdS F w w base bK bA el L := h.upd (Below.refl _ _)
/-- The pile's pointer, behind whatever was done. -/
theorem UpdS.open (h : UpdS F w w1 base bK bA el L) : ∃ bP p, w1.cell? ⟨bK, 1, none⟩ = some (.pointer (some ⟨bP, 0, none⟩)) ∧ p.xs = L ∧ PileAt w1 base bP p ∧ ∀ w' L', UpdP w1 w' base bP p L' → UpdS F w w' base bK bA el L' := by
  obtain ⟨F', ⟨bP, bM, p, v, ms, h1, hc, rfl, hF⟩, hm, hf⟩ := h
  refine ⟨bP, p, h1.cells.2.1, rfl, h1.pile, fun w' L' hu => ?_⟩
  obtain ⟨F2, g1, g2, g3⟩ := h1.upd hc hF hu
  refine ⟨F2, g1, hm.then g2 hf, fun k hk => ?_⟩
  rcases g3 k hk with e | e
  · exact hf k e
  · exact .inr (Nat.le_trans hm.size e)
theorem UpdS.stk (h : UpdS F w w1 base bK bA el L) : ∃ F', StkS w1 base bK bA el L F' := by
  obtain ⟨F', h1, _⟩ := h
  exact ⟨F', h1⟩
theorem UpdS.len (h : UpdS F w w1 base bK bA el L) : Calls Try.prog 22 #[.pointer (some ⟨bK, 0, none⟩)] w1 fun e w' => e = .returned (.int .i64 L.length) ∧ w1 = w' := by
  obtain ⟨F', h1⟩ := h.stk
  exact slen_any h1
theorem UpdS.at (h : UpdS F w w1 base bK bA el L) (i : Int) : Calls Try.prog 57 #[.pointer (some ⟨bK, 0, none⟩), .int .i64 i] w1 fun e w' => e = .returned (.int .i64 (atM L i)) ∧ w1 = w' := by
  obtain ⟨F', h1⟩ := h.stk
  exact sat_any h1 i
theorem UpdS.find (h : UpdS F w w1 base bK bA el L) (hl : L.length ≤ 100000) (hn : L.Nodup) (x : Int) : Calls Try.prog 13 #[.pointer (some ⟨bK, 0, none⟩), .int .i64 x] w1 fun e w' => e = .returned (.int .i64 (findM L x)) ∧ w1 = w' := by
  obtain ⟨F', h1⟩ := h.stk
  exact sfind_any h1 hl hn x
theorem UpdS.made (h : UpdS F w w1 base bK bA el L) : Calls Try.prog 55 #[.pointer (some ⟨bK, 0, none⟩)] w1 fun e w' => e = .returned (.bool true) ∧ w1 = w' := by
  obtain ⟨F', bP, bM, p, v, ms, h1, _⟩ := h.stk
  exact made_s h1
/-- What look leaves, behind whatever was done. -/
theorem UpdS.look (h : UpdS F w w1 base bK bA (elOf ks) L) (ha : ArK w1 base bA ks FA) (id : Int) : Calls Try.prog 68 #[.pointer (some ⟨bK, 0, none⟩), .int .i64 id] w1 fun e w' => e = .returned (.tuple #[knownV ks id, .bool (elOf ks id).isSome]) ∧ UpdS F w w' base bK bA (elOf ks) L := by
  obtain ⟨F', h1, hm, hf⟩ := h
  refine (look_any ha h1 id).mono ?_
  rintro e w' ⟨rfl, F2, g1, g2, g3⟩
  refine ⟨rfl, F2, g1, hm.then g2 hf, fun k hk => ?_⟩
  rcases g3 k hk with e | e
  · exact hf k e
  · exact .inr (Nat.le_trans hm.size e)

theorem has_s (ha : ArK w base bA ks FA) (hs : StkS w base bK bA (elOf ks) L F) (id : Int) : Calls Try.prog 113 #[.pointer (some ⟨bK, 0, none⟩), .int .i64 id] w fun e w' =>
    e = .returned (.bool (elOf ks id).isSome) ∧ UpdS F w w' base bK bA (elOf ks) L := by
  have HL := hide (look_any ha hs id)
  unfold knownV at HL
  generalize (elOf ks id).isSome = r at *
  clear ha hs
  go_enter Try.func113, Try.ntmps113
  go_wp2_with (go_at_call 68; refine (unhide HL).mono ?_; rintro e w1 ⟨rfl, hu⟩; have HU := hide hu; clear hu)
  go_ret
  exact ⟨rfl, (unhide HU).then (below_new _ _)⟩

set_option maxHeartbeats 1000000 in
theorem enter_any (ha : ArK w base bA ks FA) (hs : StkS w base bK bA (elOf ks) L F) (hg : Good ks L) (id : Int) : Calls Try.prog 63 #[.pointer (some ⟨bK, 0, none⟩), .int .i64 id] w fun e w' =>
    e = .returned (.int .i64 (enterE ks L id)) ∧ UpdS F w w' base bK bA (elOf ks) L := by
  have hl := (Live.mk' ha hs).few hg
  have HL := hide (has_s ha hs id)
  have HF : Hid (∀ w1, UpdS F w w1 base bK bA (elOf ks) L → Calls Try.prog 13 #[.pointer (some ⟨bK, 0, none⟩), .int .i64 id] w1 fun e w' => e = .returned (.int .i64 (findM L id)) ∧ w1 = w') := hide (fun w1 hu => hu.find (by omega) hg.nodup id)
  have HM := hide hs.self.made
  unfold enterE
  clear hs hg hl ha
  cases he : (elOf ks id).isSome with
  | false =>
    rw [he] at HL
    go_enter Try.func63, Try.ntmps63
    go_wp2_with (first | (go_at_call 55; refine (unhide HM).mono ?_; rintro e w' ⟨rfl, rfl⟩) | (go_at_call 113; refine (unhide HL).mono ?_; rintro e w1 ⟨rfl, hb⟩; have HB := hide hb; clear hb))
    go_ret
    exact ⟨rfl, unhide HB⟩
  | true =>
    rw [he] at HL
    by_cases hm : id ∈ L
    · obtain ⟨j, hj, _⟩ := findM_in hm
      rw [hj] at HF
      rw [if_pos rfl, if_pos hm]
      clear he hm hj
      have hz : (0 : Int) ≤ (j : Int) := by omega
      go_enter Try.func63, Try.ntmps63
      go_wp2_with (first | (go_at_call 55; refine (unhide HM).mono ?_; rintro e w' ⟨rfl, rfl⟩) | (go_at_call 113; refine (unhide HL).mono ?_; rintro e w1 ⟨rfl, hb⟩; have HB := hide hb; clear hb) | (go_at_call 13; refine ((unhide HF) w1 (unhide HB)).mono ?_; rintro e w' ⟨rfl, rfl⟩))
      go_ret
      exact ⟨rfl, unhide HB⟩
    · rw [findM_out hm] at HF
      rw [if_pos rfl, if_neg hm]
      clear he hm
      go_enter Try.func63, Try.ntmps63
      go_wp2_with (first | (go_at_call 55; refine (unhide HM).mono ?_; rintro e w' ⟨rfl, rfl⟩) | (go_at_call 113; refine (unhide HL).mono ?_; rintro e w1 ⟨rfl, hb⟩; have HB := hide hb; clear hb) | (go_at_call 13; refine ((unhide HF) w1 (unhide HB)).mono ?_; rintro e w' ⟨rfl, rfl⟩))
      go_ret
      exact ⟨rfl, unhide HB⟩

set_option maxHeartbeats 1000000 in
theorem spush_any (ha : ArK w base bA ks FA) (hs : StkS w base bK bA (elOf ks) L F) (hg : Good ks L) (id : Int) : Calls Try.prog 19 #[.pointer (some ⟨bK, 0, none⟩), .int .i64 id] w fun e w' =>
    e = .returned (.int .i64 (enterE ks L id)) ∧ UpdS F w w' base bK bA (elOf ks) (pushL ks L id) := by
  have hl := (Live.mk' ha hs).few hg
  have HE := hide (enter_any ha hs hg id)
  have HLn := hide hl
  unfold pushL
  clear ha hs hg hl
  by_cases h0 : enterE ks L id = 0
  · rw [h0] at HE ⊢
    rw [if_pos rfl]
    clear h0
    go_enter Try.func19, Try.ntmps19
    go_wp2_with (first | (go_at_call 63; refine (unhide HE).mono ?_; rintro e w1 ⟨rfl, hu⟩; obtain ⟨bP, p, hc1, hp, hpl, hup⟩ := hu.open; subst hp; have HPL := hide hpl; have HUP := hide hup; clear hu hpl hup) | (go_at_call 64; refine (push_any (unhide HPL) (by have := unhide HLn; omega) id).mono ?_; rintro e w2 ⟨rfl, hu⟩; have HU := hide ((unhide HUP) _ _ hu); clear hu))
    go_ret
    exact ⟨rfl, unhide HU⟩
  · rw [if_neg h0]
    have h0' : (enterE ks L id != 0) = true := by simpa using h0
    generalize enterE ks L id = r at *
    clear h0
    go_enter Try.func19, Try.ntmps19
    go_wp2_with (go_at_call 63; refine (unhide HE).mono ?_; rintro e w1 ⟨rfl, hb⟩; have HB := hide hb; clear hb)
    go_ret
    exact ⟨rfl, unhide HB⟩
end
end Go.Proofs.Ytmllhebmaldgfaa
