/-
  Package edit's calls.
-/
import Derived.Test.YtnclnijlpchdnaaGreatE1
import Derived.Test.YtnclnijlpchdnaaGreatE2
import Derived.Test.YtnclnijlpchdnaaGreatE3
import Derived.Test.YtnclnijlpchdnaaGreatE0
namespace Go.Proofs.YtnclnijlpchdnaaGreat
open Go.RowKit

section
variable {w : World} {base bA : Nat} {ns : List NodeM} {os : List OneM} {F : Nat → Prop}

theorem rule_no {A B : Nat} (h : A ≠ 0 ∨ B ≠ 0) : (A == 0 && B == 0) = false := by
  rcases h with h | h
  · have : (A == 0) = false := by simpa using h
    simp [this]
  · have : (B == 0) = false := by simpa using h
    simp [this]

theorem fitsDoc_any (h : ArS w base bA ns F) (hs : Sim ns os) (i b : Int) (B : Nat) (g : Value) (hg : Guest B w bA os i g) :
    Calls Tryz.prog 98 #[.pointer (some ⟨bA, 0, none⟩), g, .int .i64 b] w fun e w' => e = .returned (.bool (fitsDoc os i b)) ∧ Below w.heap.size w w' := by
  have hq := asks h hs b
  unfold fitsDoc
  by_cases h5 : kindO os i = 5
  · obtain ⟨a, c, rfl, hin, _⟩ := hg.all h5
    unfold bundleV bringsO
    simp only [h5, if_true]
    have hB : ∀ W k, Below w.heap.size w W → Calls Tryz.prog 140 #[.agg #[.pointer (some ⟨bA, 0, none⟩), .slice a (kidsO os i).length c], .int .i64 k] W fun e w' => (k = 2 → e = .returned (.int .i64 (cntO os (kidsO os i) [2]))) ∧ (k = 1 → e = .returned (.int .i64 (cntO os (kidsO os i) [1]))) ∧ Below w.heap.size w w' := fun W k hW =>
      (bBrings (h.below hW) hs a c (kidsO os i) (hin.below hW) (kids_lt hs i) (kids_few h hs i) k).mono fun e w' ⟨h1, h2⟩ => ⟨fun e => e ▸ h1, fun e => e ▸ h1, hW.trans (h2.mono hW.size)⟩
    generalize cntO os (kidsO os i) [2] = m2 at hB ⊢
    generalize cntO os (kidsO os i) [1] = m1 at hB ⊢
    by_cases h2 : 0 < m2
    · rw [if_pos (.inl h2)]
      exact fdb_text hq _ _ _ m2 m1 hB (by omega)
    · by_cases h1 : 1 < m1
      · rw [if_pos (.inr h1)]
        exact fdb_many hq _ _ _ m2 m1 hB (by omega) (by omega)
      · rw [if_neg (by omega)]
        by_cases h0 : m1 = 0
        · rw [if_pos h0]
          exact fdb_none hq _ _ _ m2 m1 hB (by omega) (by omega)
        · rw [if_neg h0]
          unfold elemRule
          by_cases hp : cntO os (aheadO os b) [1] = 0
          · by_cases hr : cntO os (behindO os b) [1, 4] = 0
            · rw [hp, hr]
              exact fdb_c hq _ _ _ m2 m1 hB (by omega) (by omega) hp hr
            · rw [rule_no (.inr hr)]
              exact fdb_b hq _ _ _ m2 m1 hB (by omega) (by omega) _ _ rfl hp rfl hr
          · rw [rule_no (.inl hp)]
            exact fdb_a hq _ _ _ m2 m1 hB (by omega) (by omega) _ rfl hp
  · rw [hg.one h5]
    unfold singleV bringsO
    simp only [h5, if_false]
    generalize kindO os i = kd at h5 ⊢
    by_cases h2 : kd = 2
    · rw [if_pos (.inl (by rw [if_pos h2]; omega))]
      subst h2
      exact fds_text hq i
    · rw [if_neg h2, if_neg (by by_cases e : kd = 1 <;> simp [e])]
      by_cases h1 : kd = 1
      · rw [if_pos h1]
        subst h1
        unfold elemRule
        by_cases hp : cntO os (aheadO os b) [1] = 0
        · by_cases hr : cntO os (behindO os b) [1, 4] = 0
          · rw [hp, hr]
            exact fds_elem_c hq i hp hr
          · rw [rule_no (.inr hr)]
            exact fds_elem_b hq i _ _ rfl hp rfl hr
        · rw [rule_no (.inl hp)]
          exact fds_elem_a hq i _ rfl hp
      · rw [if_neg h1]
        by_cases h4 : kd = 4
        · rw [if_pos h4]
          subst h4
          unfold docRule
          by_cases hp : cntO os (aheadO os b) [1, 4] = 0
          · by_cases hr : cntO os (behindO os b) [4] = 0
            · rw [hp, hr]
              exact fds_doc_c hq i hp hr
            · rw [rule_no (.inr hr)]
              exact fds_doc_b hq i _ _ rfl hp rfl hr
          · rw [rule_no (.inl hp)]
            exact fds_doc_a hq i _ rfl hp
        · rw [if_neg h4]
          exact fds_other hq i kd h2 h1 h4 h5

set_option maxHeartbeats 1000000 in
theorem fits_any (h : ArS w base bA ns F) (hs : Sim ns os) (i p b : Int) (B : Nat) (g : Value) (hg : Guest B w bA os i g) :
    Calls Tryz.prog 66 #[.pointer (some ⟨bA, 0, none⟩), g, .int .i64 p, .int .i64 b] w fun e w' => e = .returned (.bool (fitsO os i p b)) ∧ Below w.heap.size w w' := by
  unfold fitsO
  by_cases h0 : p = 0
  · have HF := hide (fitsDoc_any h hs i b B g hg)
    rw [if_pos h0]
    subst h0
    generalize fitsDoc os i b = v at HF ⊢
    clear h hs hg
    go_enter Tryz.func66, Tryz.ntmps66
    go_wp2_with (first | (go_at_call 98; refine (unhide HF).mono ?_; rintro e w1 ⟨rfl, hb1⟩))
    go_ret
    exact ⟨rfl, hb1⟩
  · rw [if_neg h0]
    have hp : (p == 0) = false := by simpa using h0
    by_cases h5 : kindO os i = 5
    · obtain ⟨a, c, rfl, _, _⟩ := hg.all h5
      rw [h5]
      unfold bundleV
      generalize (kidsO os i).length = n
      have hm1 : ∀ (w : World), (method 267 118 (.agg #[.pointer (some ⟨bA, 0, none⟩), .slice a n c]) "hornbeam/edit.kind").run Tryz.prog w = .ok (141, .agg #[.pointer (some ⟨bA, 0, none⟩), .slice a n c]) w := fun _ => by kernel_rfl
      clear h hs hg
      have HBC := hide (Below.refl w.heap.size w)
      go_enter Tryz.func66, Tryz.ntmps66
      go_wp2_with (first | (go_at_call 141; refine (bKind _ _ _).mono ?_; rintro e w1 ⟨rfl, hb⟩; have HBC := hide ((unhide HBC).trans (hb.mono (unhide HBC).size)); clear hb))
      go_ret
      exact ⟨rfl, unhide HBC⟩
    · rw [hg.one h5]
      unfold singleV
      generalize kindO os i = kd
      have hm1 : ∀ (w : World), (method 267 120 (.agg #[.int .i64 i, .int .i64 kd]) "hornbeam/edit.kind").run Tryz.prog w = .ok (143, .agg #[.int .i64 i, .int .i64 kd]) w := fun _ => by kernel_rfl
      clear h hs hg
      have HBC := hide (Below.refl w.heap.size w)
      by_cases k0 : kd = 0
      · subst k0
        go_enter Tryz.func66, Tryz.ntmps66
        go_wp2_with (first | (go_at_call 143; refine (sKind _ _ _).mono ?_; rintro e w1 ⟨rfl, hb⟩; have HBC := hide ((unhide HBC).trans (hb.mono (unhide HBC).size)); clear hb))
        go_ret
        exact ⟨rfl, unhide HBC⟩
      · have n0 : (kd != 0) = true := by simpa using k0
        rw [n0]
        by_cases k4 : kd = 4
        · subst k4
          go_enter Tryz.func66, Tryz.ntmps66
          go_wp2_with (first | (go_at_call 143; refine (sKind _ _ _).mono ?_; rintro e w1 ⟨rfl, hb⟩; have HBC := hide ((unhide HBC).trans (hb.mono (unhide HBC).size)); clear hb))
          go_ret
          exact ⟨rfl, unhide HBC⟩
        · have n4 : (kd != 4) = true := by simpa using k4
          rw [n4]
          go_enter Tryz.func66, Tryz.ntmps66
          go_wp2_with (first | (go_at_call 143; refine (sKind _ _ _).mono ?_; rintro e w1 ⟨rfl, hb⟩; have HBC := hide ((unhide HBC).trans (hb.mono (unhide HBC).size)); clear hb))
          go_ret
          exact ⟨rfl, unhide HBC⟩

end
end Go.Proofs.YtnclnijlpchdnaaGreat

namespace Go.Proofs.YtnclnijlpchdnaaGreat
open Go.RowKit

section
variable {w : World} {base bA : Nat} {ns : List NodeM} {os : List OneM} {F : Nat → Prop}
set_option maxHeartbeats 1000000 in
theorem comers_any (i : Nat) (B : Nat) (hB : B ≤ w.heap.size) (g : Value) (hg : Guest B w bA os i g) :
    Calls Tryz.prog 41 #[g] w fun e w' => ∃ a c, e = .returned (.slice a (comersO os i).length c) ∧ IntsIn w' a (comersO os i) ∧ (∀ b off, a = some ⟨b, off, none⟩ → B ≤ b ∧ b < w'.heap.size) ∧ Below w.heap.size w w' := by
  unfold comersO
  by_cases h5 : kindO os i = 5
  · rw [if_pos h5]
    obtain ⟨a, c, rfl, hin, hnew⟩ := hg.all h5
    unfold bundleV
    have HIN := hide hin
    have HNEW := hide hnew
    clear hg hin hnew
    generalize kidsO os i = ks at HIN ⊢
    have ht1 : ∀ w : World, (Instr.typeAssert (.iface 118 (.agg #[.pointer (some ⟨bA, 0, none⟩), .slice a ks.length c])) 83 118 true).run Tryz.prog w = .ok (.tuple #[(.agg #[.pointer (some ⟨bA, 0, none⟩), .slice a ks.length c]), .bool true]) w := fun _ => by kernel_rfl
    go_enter Tryz.func41, Tryz.ntmps41
    set_option maxRecDepth 100000 in
    go_wp2
    go_ret
    refine ⟨_, _, rfl, (unhide HIN).below ((Below.refl _ _).alloc (Nat.le_refl _) _), fun b off e => ?_, (Below.refl _ _).alloc (Nat.le_refl _) _⟩
    have := (unhide HNEW) b off e
    exact ⟨this.1, by simp; omega⟩
  · rw [if_neg h5, hg.one h5]
    unfold singleV
    clear hg
    generalize kindO os i = kd
    have ht1 : ∀ w : World, (Instr.typeAssert (.iface 120 (.agg #[.int .i64 (i : Int), .int .i64 kd])) 83 118 true).run Tryz.prog w = .ok (.tuple #[.agg #[.pointer none, .slice none 0 0], .bool false]) w := fun _ => by kernel_rfl
    have ht2 : ∀ w : World, (Instr.typeAssert (.iface 120 (.agg #[.int .i64 (i : Int), .int .i64 kd])) 83 120 true).run Tryz.prog w = .ok (.tuple #[(.agg #[.int .i64 (i : Int), .int .i64 kd]), .bool true]) w := fun _ => by kernel_rfl
    go_enter Tryz.func41, Tryz.ntmps41
    set_option maxRecDepth 100000 in
    go_wp2
    go_ret
    refine ⟨_, _, rfl, ⟨fun j x hj => ?_⟩, fun b off e => ?_, ((Below.refl _ _).alloc (Nat.le_refl _) _).alloc (by simp) _⟩
    · match j, hj with
      | 0, hj => simp at hj; subst hj; exact ⟨_, _, rfl, by simp⟩
      | j + 1, hj => simp at hj
    · simp at e
      obtain ⟨rfl, rfl⟩ := e
      exact ⟨by omega, by simp⟩
end
end Go.Proofs.YtnclnijlpchdnaaGreat

namespace Go.Proofs.YtnclnijlpchdnaaGreat
open Go.RowKit

/-- What May asks. -/
structure MayQ (w : World) (bA : Nat) (os : List OneM) (i q : Nat) (b : Int) : Prop where
  find : Calls Tryz.prog 45 #[.pointer (some ⟨bA, 0, none⟩), .slice (some ⟨w.heap.size, 0, none⟩) 2 2] (w.alloc (.cells #[.int .i64 i, .int .i64 q] 3)) fun e w' => e = .returned (.int .i64 0) ∧ w' = w.alloc (.cells #[.int .i64 i, .int .i64 q] 3)
  has : ∀ W, Below w.heap.size w W → Calls Tryz.prog 64 #[.pointer (some ⟨bA, 0, none⟩), .int .i64 b] W fun e w' => e = .returned (.bool (hasO os b)) ∧ w' = W
  par : ∀ W, Below w.heap.size w W → Calls Tryz.prog 46 #[.pointer (some ⟨bA, 0, none⟩), .int .i64 q] W fun e w' => e = .returned (.bool (parentM (kindO os q))) ∧ Below W.heap.size W w'
  above : ∀ W, Below w.heap.size w W → Calls Tryz.prog 65 #[.pointer (some ⟨bA, 0, none⟩), .int .i64 q, .int .i64 i] W fun e w' => e = .returned (.bool (aboveO os q i)) ∧ Below W.heap.size W w'
  see : hasO os b = true → ∀ W, Below w.heap.size w W → Calls Tryz.prog 40 #[.pointer (some ⟨bA, 0, none⟩), .int .i64 b] W fun e w' => ∃ v0 v1 v7 v8 v9 v10 v11 v2 v4 v5 ao n cp, e = .returned (.agg #[.int .i64 v0, .int .i64 v1, .string v2, .slice ao n cp, .string v4, .string v5, .int .i64 (upIO os b), .int .i64 v7, .int .i64 v8, .int .i64 v9, .int .i64 v10, .int .i64 v11]) ∧ Below W.heap.size W w'
  guest : ∀ W, Below w.heap.size w W → Calls Tryz.prog 42 #[.pointer (some ⟨bA, 0, none⟩), .int .i64 i] W fun e w' => ∃ g, e = .returned g ∧ Guest W.heap.size w' bA os i g ∧ Below W.heap.size W w'
  fits : ∀ W B g, Below w.heap.size w W → Guest B W bA os i g → Calls Tryz.prog 66 #[.pointer (some ⟨bA, 0, none⟩), g, .int .i64 q, .int .i64 b] W fun e w' => e = .returned (.bool (fitsO os i q b)) ∧ Below W.heap.size W w'

theorem field6 (w : World) (k v1 v6 v7 v8 v9 v10 v11 : Int) (v2 v4 v5 : ByteArray) (ao : Option Addr) (q cp : Nat) :
    (Instr.field 36 (.agg #[.int .i64 k, .int .i64 v1, .string v2, .slice ao q cp, .string v4, .string v5, .int .i64 v6, .int .i64 v7, .int .i64 v8, .int .i64 v9, .int .i64 v10, .int .i64 v11]) 6).run Tryz.prog w = .ok (.int .i64 v6) w := by
  kernel_rfl

section
variable {w : World} {base bA : Nat} {ns : List NodeM} {os : List OneM} {F : Nat → Prop}
theorem mayQ (h : ArS w base bA ns F) (hs : Sim ns os) (i q : Nat) (hi : i < os.length) (hq : q < os.length) (b : Int) : MayQ w bA os i q b := by
  have hb : Below w.heap.size w (w.alloc (.cells #[.int .i64 (i : Int), .int .i64 (q : Int)] 3)) := (Below.refl _ w).alloc (Nat.le_refl _) _
  have hi' : hasO os (i : Int) = true := decide_eq_true (by omega)
  have hq' : hasO os (q : Int) = true := decide_eq_true (by omega)
  refine ⟨?_, fun W hW => hasE (h.below hW) hs b, fun W hW => ?_, fun W hW => above_sim (h.below hW) hs q i, fun hb W hW => ?_, fun W hW => guestOf_any (h.below hW) hs i hi, fun W B g hW hg => fits_any (h.below hW) hs i q b B g hg⟩
  · have := find2 (h.below hb) hs i q w.heap.size 2 (by simp) (by simp)
    rw [hi', hq'] at this
    exact this
  · have := editParent (h.below hW) hs q _ (List.getElem?_eq_getElem hq)
    rw [kindO_of (List.getElem?_eq_getElem hq)]
    exact this
  · obtain ⟨j, o, rfl, ho⟩ := hasO_yes hb
    refine (see_kind (h.below hW) hs j (List.getElem?_eq_some_iff.1 ho).1).mono fun e w' ⟨v1, v6, v7, v8, v9, v10, v11, v2, v4, v5, ao, n, cp, h1, h2, _, _, h3⟩ => ?_
    exact ⟨_, v1, v7, v8, v9, v10, v11, v2, v4, v5, ao, n, cp, h2 ▸ h1, h3⟩
end

section
variable {w : World} {bA : Nat} {os : List OneM} {i q : Nat} {b : Int}

set_option maxHeartbeats 2000000 in
theorem may_b (hQ : MayQ w bA os i q b) (h0 : b ≠ -1) (hb : hasO os b = false) :
    Calls Tryz.prog 24 #[.pointer (some ⟨bA, 0, none⟩), .int .i64 i, .int .i64 q, .int .i64 b] w fun e w' => e = .returned (.int .i64 6) ∧ Below w.heap.size w w' := by
  have HQ := hide hQ
  have hfd := field6
  have HHB := hide hb
  have z0 : (b != -1) = true := by simpa using h0
  have z0' : (b == -1) = false := by simpa using h0
  clear hQ hb
  go_enter Tryz.func24, Tryz.ntmps24
  set_option maxRecDepth 10000 in
  go_wp2_with (first
    | (go_at_call 45; refine (unhide HQ).find.mono ?_; rintro e w1 ⟨rfl, rfl⟩; have HBC := hide (show Below w.heap.size w (w.alloc (.cells #[.int .i64 (i : Int), .int .i64 (q : Int)] 3)) from (Below.refl _ w).alloc (Nat.le_refl _) _))
    | (go_at_call 64; refine ((unhide HQ).has _ (unhide HBC)).mono ?_; rw [unhide HHB]; rintro e w1 ⟨rfl, rfl⟩))
  go_ret
  exact ⟨rfl, unhide HBC⟩

set_option maxHeartbeats 2000000 in
theorem may_p0 (hQ : MayQ w bA os i q b) (h0 : b = -1) (hp : parentM (kindO os q) = false) :
    Calls Tryz.prog 24 #[.pointer (some ⟨bA, 0, none⟩), .int .i64 i, .int .i64 q, .int .i64 b] w fun e w' => e = .returned (.int .i64 20) ∧ Below w.heap.size w w' := by
  have HQ := hide hQ
  have hfd := field6
  have HPAR := hide hp
  subst h0
  clear hQ hp
  go_enter Tryz.func24, Tryz.ntmps24
  set_option maxRecDepth 10000 in
  go_wp2_with (first
    | (go_at_call 45; refine (unhide HQ).find.mono ?_; rintro e w1 ⟨rfl, rfl⟩; have HBC := hide (show Below w.heap.size w (w.alloc (.cells #[.int .i64 (i : Int), .int .i64 (q : Int)] 3)) from (Below.refl _ w).alloc (Nat.le_refl _) _))
    | (go_at_call 46; refine ((unhide HQ).par _ (unhide HBC)).mono ?_; rw [unhide HPAR]; rintro e w2 ⟨rfl, hb⟩; have HBC := hide ((unhide HBC).trans (hb.mono (unhide HBC).size)); clear hb))
  go_ret
  exact ⟨rfl, unhide HBC⟩

set_option maxHeartbeats 2000000 in
theorem may_p1 (hQ : MayQ w bA os i q b) (h0 : b ≠ -1) (hb : hasO os b = true) (hp : parentM (kindO os q) = false) :
    Calls Tryz.prog 24 #[.pointer (some ⟨bA, 0, none⟩), .int .i64 i, .int .i64 q, .int .i64 b] w fun e w' => e = .returned (.int .i64 20) ∧ Below w.heap.size w w' := by
  have HQ := hide hQ
  have hfd := field6
  have HHB := hide hb
  have HPAR := hide hp
  have z0 : (b != -1) = true := by simpa using h0
  have z0' : (b == -1) = false := by simpa using h0
  clear hQ hb hp
  go_enter Tryz.func24, Tryz.ntmps24
  set_option maxRecDepth 10000 in
  go_wp2_with (first
    | (go_at_call 45; refine (unhide HQ).find.mono ?_; rintro e w1 ⟨rfl, rfl⟩; have HBC := hide (show Below w.heap.size w (w.alloc (.cells #[.int .i64 (i : Int), .int .i64 (q : Int)] 3)) from (Below.refl _ w).alloc (Nat.le_refl _) _))
    | (go_at_call 64; refine ((unhide HQ).has _ (unhide HBC)).mono ?_; rw [unhide HHB]; rintro e w1 ⟨rfl, rfl⟩)
    | (go_at_call 46; refine ((unhide HQ).par _ (unhide HBC)).mono ?_; rw [unhide HPAR]; rintro e w2 ⟨rfl, hb⟩; have HBC := hide ((unhide HBC).trans (hb.mono (unhide HBC).size)); clear hb))
  go_ret
  exact ⟨rfl, unhide HBC⟩

set_option maxHeartbeats 2000000 in
theorem may_a0 (hQ : MayQ w bA os i q b) (h0 : b = -1) (hp : parentM (kindO os q) = true) (ha : aboveO os q i = true) :
    Calls Tryz.prog 24 #[.pointer (some ⟨bA, 0, none⟩), .int .i64 i, .int .i64 q, .int .i64 b] w fun e w' => e = .returned (.int .i64 20) ∧ Below w.heap.size w w' := by
  have HQ := hide hQ
  have hfd := field6
  have HPAR := hide hp
  have HAB := hide ha
  subst h0
  clear hQ hp ha
  go_enter Tryz.func24, Tryz.ntmps24
  set_option maxRecDepth 10000 in
  go_wp2_with (first
    | (go_at_call 45; refine (unhide HQ).find.mono ?_; rintro e w1 ⟨rfl, rfl⟩; have HBC := hide (show Below w.heap.size w (w.alloc (.cells #[.int .i64 (i : Int), .int .i64 (q : Int)] 3)) from (Below.refl _ w).alloc (Nat.le_refl _) _))
    | (go_at_call 46; refine ((unhide HQ).par _ (unhide HBC)).mono ?_; rw [unhide HPAR]; rintro e w2 ⟨rfl, hb⟩; have HBC := hide ((unhide HBC).trans (hb.mono (unhide HBC).size)); clear hb)
    | (go_at_call 65; refine ((unhide HQ).above _ (unhide HBC)).mono ?_; rw [unhide HAB]; rintro e w3 ⟨rfl, hb⟩; have HBC := hide ((unhide HBC).trans (hb.mono (unhide HBC).size)); clear hb))
  go_ret
  exact ⟨rfl, unhide HBC⟩

set_option maxHeartbeats 2000000 in
theorem may_a1 (hQ : MayQ w bA os i q b) (h0 : b ≠ -1) (hb : hasO os b = true) (hp : parentM (kindO os q) = true) (ha : aboveO os q i = true) :
    Calls Tryz.prog 24 #[.pointer (some ⟨bA, 0, none⟩), .int .i64 i, .int .i64 q, .int .i64 b] w fun e w' => e = .returned (.int .i64 20) ∧ Below w.heap.size w w' := by
  have HQ := hide hQ
  have hfd := field6
  have HHB := hide hb
  have HPAR := hide hp
  have HAB := hide ha
  have z0 : (b != -1) = true := by simpa using h0
  have z0' : (b == -1) = false := by simpa using h0
  clear hQ hb hp ha
  go_enter Tryz.func24, Tryz.ntmps24
  set_option maxRecDepth 10000 in
  go_wp2_with (first
    | (go_at_call 45; refine (unhide HQ).find.mono ?_; rintro e w1 ⟨rfl, rfl⟩; have HBC := hide (show Below w.heap.size w (w.alloc (.cells #[.int .i64 (i : Int), .int .i64 (q : Int)] 3)) from (Below.refl _ w).alloc (Nat.le_refl _) _))
    | (go_at_call 64; refine ((unhide HQ).has _ (unhide HBC)).mono ?_; rw [unhide HHB]; rintro e w1 ⟨rfl, rfl⟩)
    | (go_at_call 46; refine ((unhide HQ).par _ (unhide HBC)).mono ?_; rw [unhide HPAR]; rintro e w2 ⟨rfl, hb⟩; have HBC := hide ((unhide HBC).trans (hb.mono (unhide HBC).size)); clear hb)
    | (go_at_call 65; refine ((unhide HQ).above _ (unhide HBC)).mono ?_; rw [unhide HAB]; rintro e w3 ⟨rfl, hb⟩; have HBC := hide ((unhide HBC).trans (hb.mono (unhide HBC).size)); clear hb))
  go_ret
  exact ⟨rfl, unhide HBC⟩

set_option maxHeartbeats 2000000 in
theorem may_u (hQ : MayQ w bA os i q b) (h0 : b ≠ -1) (hb : hasO os b = true) (hp : parentM (kindO os q) = true) (ha : aboveO os q i = false) (hu : upIO os b ≠ (q : Int)) :
    Calls Tryz.prog 24 #[.pointer (some ⟨bA, 0, none⟩), .int .i64 i, .int .i64 q, .int .i64 b] w fun e w' => e = .returned (.int .i64 21) ∧ Below w.heap.size w w' := by
  have HQ := hide hQ
  have hfd := field6
  have HHB := hide hb
  have HPAR := hide hp
  have HAB := hide ha
  have z0 : (b != -1) = true := by simpa using h0
  have z0' : (b == -1) = false := by simpa using h0
  have z1 : (upIO os b != (q : Int)) = true := by simpa using hu
  have z1' : (upIO os b == (q : Int)) = false := by simpa using hu
  clear hQ hb hp ha
  go_enter Tryz.func24, Tryz.ntmps24
  set_option maxRecDepth 10000 in
  go_wp2_with (first
    | (go_at_call 45; refine (unhide HQ).find.mono ?_; rintro e w1 ⟨rfl, rfl⟩; have HBC := hide (show Below w.heap.size w (w.alloc (.cells #[.int .i64 (i : Int), .int .i64 (q : Int)] 3)) from (Below.refl _ w).alloc (Nat.le_refl _) _))
    | (go_at_call 64; refine ((unhide HQ).has _ (unhide HBC)).mono ?_; rw [unhide HHB]; rintro e w1 ⟨rfl, rfl⟩)
    | (go_at_call 46; refine ((unhide HQ).par _ (unhide HBC)).mono ?_; rw [unhide HPAR]; rintro e w2 ⟨rfl, hb⟩; have HBC := hide ((unhide HBC).trans (hb.mono (unhide HBC).size)); clear hb)
    | (go_at_call 65; refine ((unhide HQ).above _ (unhide HBC)).mono ?_; rw [unhide HAB]; rintro e w3 ⟨rfl, hb⟩; have HBC := hide ((unhide HBC).trans (hb.mono (unhide HBC).size)); clear hb)
    | (go_at_call 40; refine ((unhide HQ).see (unhide HHB) _ (unhide HBC)).mono ?_; rintro e w4 ⟨v0, v1, v7, v8, v9, v10, v11, v2, v4, v5, ao, n, cp, rfl, hb⟩; have HBC := hide ((unhide HBC).trans (hb.mono (unhide HBC).size)); clear hb))
  go_ret
  exact ⟨rfl, unhide HBC⟩

set_option maxHeartbeats 2000000 in
theorem may_f0f (hQ : MayQ w bA os i q b) (h0 : b = -1) (hp : parentM (kindO os q) = true) (ha : aboveO os q i = false) (hf : fitsO os i q b = false) :
    Calls Tryz.prog 24 #[.pointer (some ⟨bA, 0, none⟩), .int .i64 i, .int .i64 q, .int .i64 b] w fun e w' => e = .returned (.int .i64 20) ∧ Below w.heap.size w w' := by
  have HQ := hide hQ
  have hfd := field6
  have HPAR := hide hp
  have HAB := hide ha
  have HFT := hide hf
  subst h0
  clear hQ hp ha hf
  go_enter Tryz.func24, Tryz.ntmps24
  set_option maxRecDepth 10000 in
  go_wp2_with (first
    | (go_at_call 45; refine (unhide HQ).find.mono ?_; rintro e w1 ⟨rfl, rfl⟩; have HBC := hide (show Below w.heap.size w (w.alloc (.cells #[.int .i64 (i : Int), .int .i64 (q : Int)] 3)) from (Below.refl _ w).alloc (Nat.le_refl _) _))
    | (go_at_call 46; refine ((unhide HQ).par _ (unhide HBC)).mono ?_; rw [unhide HPAR]; rintro e w2 ⟨rfl, hb⟩; have HBC := hide ((unhide HBC).trans (hb.mono (unhide HBC).size)); clear hb)
    | (go_at_call 65; refine ((unhide HQ).above _ (unhide HBC)).mono ?_; rw [unhide HAB]; rintro e w3 ⟨rfl, hb⟩; have HBC := hide ((unhide HBC).trans (hb.mono (unhide HBC).size)); clear hb)
    | (go_at_call 42; refine ((unhide HQ).guest _ (unhide HBC)).mono ?_; rintro e w5 ⟨g, rfl, hg, hb⟩; have HG := hide hg; clear hg; have HBC := hide ((unhide HBC).trans (hb.mono (unhide HBC).size)); clear hb)
    | (go_at_call 66; refine ((unhide HQ).fits _ _ _ (unhide HBC) (unhide HG)).mono ?_; rw [unhide HFT]; rintro e w6 ⟨rfl, hb⟩; have HBC := hide ((unhide HBC).trans (hb.mono (unhide HBC).size)); clear hb))
  go_ret
  exact ⟨rfl, unhide HBC⟩

set_option maxHeartbeats 2000000 in
theorem may_f1f (hQ : MayQ w bA os i q b) (h0 : b ≠ -1) (hb : hasO os b = true) (hp : parentM (kindO os q) = true) (ha : aboveO os q i = false) (hu : upIO os b = (q : Int)) (hf : fitsO os i q b = false) :
    Calls Tryz.prog 24 #[.pointer (some ⟨bA, 0, none⟩), .int .i64 i, .int .i64 q, .int .i64 b] w fun e w' => e = .returned (.int .i64 20) ∧ Below w.heap.size w w' := by
  have HQ := hide hQ
  have hfd := field6
  have HHB := hide hb
  have HPAR := hide hp
  have HAB := hide ha
  have HFT := hide hf
  have z0 : (b != -1) = true := by simpa using h0
  have z0' : (b == -1) = false := by simpa using h0
  have z1 : (upIO os b != (q : Int)) = false := by simp [hu]
  have z1' : (upIO os b == (q : Int)) = true := by simp [hu]
  clear hQ hb hp ha hf
  go_enter Tryz.func24, Tryz.ntmps24
  set_option maxRecDepth 10000 in
  go_wp2_with (first
    | (go_at_call 45; refine (unhide HQ).find.mono ?_; rintro e w1 ⟨rfl, rfl⟩; have HBC := hide (show Below w.heap.size w (w.alloc (.cells #[.int .i64 (i : Int), .int .i64 (q : Int)] 3)) from (Below.refl _ w).alloc (Nat.le_refl _) _))
    | (go_at_call 64; refine ((unhide HQ).has _ (unhide HBC)).mono ?_; rw [unhide HHB]; rintro e w1 ⟨rfl, rfl⟩)
    | (go_at_call 46; refine ((unhide HQ).par _ (unhide HBC)).mono ?_; rw [unhide HPAR]; rintro e w2 ⟨rfl, hb⟩; have HBC := hide ((unhide HBC).trans (hb.mono (unhide HBC).size)); clear hb)
    | (go_at_call 65; refine ((unhide HQ).above _ (unhide HBC)).mono ?_; rw [unhide HAB]; rintro e w3 ⟨rfl, hb⟩; have HBC := hide ((unhide HBC).trans (hb.mono (unhide HBC).size)); clear hb)
    | (go_at_call 40; refine ((unhide HQ).see (unhide HHB) _ (unhide HBC)).mono ?_; rintro e w4 ⟨v0, v1, v7, v8, v9, v10, v11, v2, v4, v5, ao, n, cp, rfl, hb⟩; have HBC := hide ((unhide HBC).trans (hb.mono (unhide HBC).size)); clear hb)
    | (go_at_call 42; refine ((unhide HQ).guest _ (unhide HBC)).mono ?_; rintro e w5 ⟨g, rfl, hg, hb⟩; have HG := hide hg; clear hg; have HBC := hide ((unhide HBC).trans (hb.mono (unhide HBC).size)); clear hb)
    | (go_at_call 66; refine ((unhide HQ).fits _ _ _ (unhide HBC) (unhide HG)).mono ?_; rw [unhide HFT]; rintro e w6 ⟨rfl, hb⟩; have HBC := hide ((unhide HBC).trans (hb.mono (unhide HBC).size)); clear hb))
  go_ret
  exact ⟨rfl, unhide HBC⟩

set_option maxHeartbeats 2000000 in
theorem may_f0t (hQ : MayQ w bA os i q b) (h0 : b = -1) (hp : parentM (kindO os q) = true) (ha : aboveO os q i = false) (hf : fitsO os i q b = true) :
    Calls Tryz.prog 24 #[.pointer (some ⟨bA, 0, none⟩), .int .i64 i, .int .i64 q, .int .i64 b] w fun e w' => e = .returned (.int .i64 0) ∧ Below w.heap.size w w' := by
  have HQ := hide hQ
  have hfd := field6
  have HPAR := hide hp
  have HAB := hide ha
  have HFT := hide hf
  subst h0
  clear hQ hp ha hf
  go_enter Tryz.func24, Tryz.ntmps24
  set_option maxRecDepth 10000 in
  go_wp2_with (first
    | (go_at_call 45; refine (unhide HQ).find.mono ?_; rintro e w1 ⟨rfl, rfl⟩; have HBC := hide (show Below w.heap.size w (w.alloc (.cells #[.int .i64 (i : Int), .int .i64 (q : Int)] 3)) from (Below.refl _ w).alloc (Nat.le_refl _) _))
    | (go_at_call 46; refine ((unhide HQ).par _ (unhide HBC)).mono ?_; rw [unhide HPAR]; rintro e w2 ⟨rfl, hb⟩; have HBC := hide ((unhide HBC).trans (hb.mono (unhide HBC).size)); clear hb)
    | (go_at_call 65; refine ((unhide HQ).above _ (unhide HBC)).mono ?_; rw [unhide HAB]; rintro e w3 ⟨rfl, hb⟩; have HBC := hide ((unhide HBC).trans (hb.mono (unhide HBC).size)); clear hb)
    | (go_at_call 42; refine ((unhide HQ).guest _ (unhide HBC)).mono ?_; rintro e w5 ⟨g, rfl, hg, hb⟩; have HG := hide hg; clear hg; have HBC := hide ((unhide HBC).trans (hb.mono (unhide HBC).size)); clear hb)
    | (go_at_call 66; refine ((unhide HQ).fits _ _ _ (unhide HBC) (unhide HG)).mono ?_; rw [unhide HFT]; rintro e w6 ⟨rfl, hb⟩; have HBC := hide ((unhide HBC).trans (hb.mono (unhide HBC).size)); clear hb))
  go_ret
  exact ⟨rfl, unhide HBC⟩

set_option maxHeartbeats 2000000 in
theorem may_f1t (hQ : MayQ w bA os i q b) (h0 : b ≠ -1) (hb : hasO os b = true) (hp : parentM (kindO os q) = true) (ha : aboveO os q i = false) (hu : upIO os b = (q : Int)) (hf : fitsO os i q b = true) :
    Calls Tryz.prog 24 #[.pointer (some ⟨bA, 0, none⟩), .int .i64 i, .int .i64 q, .int .i64 b] w fun e w' => e = .returned (.int .i64 0) ∧ Below w.heap.size w w' := by
  have HQ := hide hQ
  have hfd := field6
  have HHB := hide hb
  have HPAR := hide hp
  have HAB := hide ha
  have HFT := hide hf
  have z0 : (b != -1) = true := by simpa using h0
  have z0' : (b == -1) = false := by simpa using h0
  have z1 : (upIO os b != (q : Int)) = false := by simp [hu]
  have z1' : (upIO os b == (q : Int)) = true := by simp [hu]
  clear hQ hb hp ha hf
  go_enter Tryz.func24, Tryz.ntmps24
  set_option maxRecDepth 10000 in
  go_wp2_with (first
    | (go_at_call 45; refine (unhide HQ).find.mono ?_; rintro e w1 ⟨rfl, rfl⟩; have HBC := hide (show Below w.heap.size w (w.alloc (.cells #[.int .i64 (i : Int), .int .i64 (q : Int)] 3)) from (Below.refl _ w).alloc (Nat.le_refl _) _))
    | (go_at_call 64; refine ((unhide HQ).has _ (unhide HBC)).mono ?_; rw [unhide HHB]; rintro e w1 ⟨rfl, rfl⟩)
    | (go_at_call 46; refine ((unhide HQ).par _ (unhide HBC)).mono ?_; rw [unhide HPAR]; rintro e w2 ⟨rfl, hb⟩; have HBC := hide ((unhide HBC).trans (hb.mono (unhide HBC).size)); clear hb)
    | (go_at_call 65; refine ((unhide HQ).above _ (unhide HBC)).mono ?_; rw [unhide HAB]; rintro e w3 ⟨rfl, hb⟩; have HBC := hide ((unhide HBC).trans (hb.mono (unhide HBC).size)); clear hb)
    | (go_at_call 40; refine ((unhide HQ).see (unhide HHB) _ (unhide HBC)).mono ?_; rintro e w4 ⟨v0, v1, v7, v8, v9, v10, v11, v2, v4, v5, ao, n, cp, rfl, hb⟩; have HBC := hide ((unhide HBC).trans (hb.mono (unhide HBC).size)); clear hb)
    | (go_at_call 42; refine ((unhide HQ).guest _ (unhide HBC)).mono ?_; rintro e w5 ⟨g, rfl, hg, hb⟩; have HG := hide hg; clear hg; have HBC := hide ((unhide HBC).trans (hb.mono (unhide HBC).size)); clear hb)
    | (go_at_call 66; refine ((unhide HQ).fits _ _ _ (unhide HBC) (unhide HG)).mono ?_; rw [unhide HFT]; rintro e w6 ⟨rfl, hb⟩; have HBC := hide ((unhide HBC).trans (hb.mono (unhide HBC).size)); clear hb))
  go_ret
  exact ⟨rfl, unhide HBC⟩
end

section
variable {w : World} {base bA : Nat} {ns : List NodeM} {os : List OneM} {F : Nat → Prop}
set_option maxHeartbeats 1000000 in
theorem may_none (h : ArS w base bA ns F) (hs : Sim ns os) (id p b : Int) (hno : (hasO os id && hasO os p) = false) :
    Calls Tryz.prog 24 #[.pointer (some ⟨bA, 0, none⟩), .int .i64 id, .int .i64 p, .int .i64 b] w fun e w' => e = .returned (.int .i64 6) ∧ Below w.heap.size w w' := by
  have hb : Below w.heap.size w (w.alloc (.cells #[.int .i64 id, .int .i64 p] 3)) := (Below.refl _ w).alloc (Nat.le_refl _) _
  have hf := find2 (h.below hb) hs id p w.heap.size 2 (by simp) (by simp)
  rw [hno] at hf
  have HF := hide hf
  have HB := hide hb
  clear h hs hno hf hb
  go_enter Tryz.func24, Tryz.ntmps24
  go_wp2_with (first | (go_at_call 45; refine (unhide HF).mono ?_; rintro e w1 ⟨rfl, rfl⟩))
  go_ret
  exact ⟨rfl, unhide HB⟩

theorem may_any (h : ArS w base bA ns F) (hs : Sim ns os) (id p b : Int) :
    Calls Tryz.prog 24 #[.pointer (some ⟨bA, 0, none⟩), .int .i64 id, .int .i64 p, .int .i64 b] w fun e w' => e = .returned (.int .i64 (mayE os id p b)) ∧ Below w.heap.size w w' := by
  unfold mayE
  cases hno : (hasO os id && hasO os p) with
  | false => rw [if_pos rfl]; exact may_none h hs id p b hno
  | true =>
    rw [Bool.and_eq_true] at hno
    obtain ⟨i, oi, rfl, hoi⟩ := hasO_yes hno.1
    obtain ⟨q, oq, rfl, hoq⟩ := hasO_yes hno.2
    have hQ := mayQ h hs i q (List.getElem?_eq_some_iff.1 hoi).1 (List.getElem?_eq_some_iff.1 hoq).1 b
    rw [if_neg (by simp)]
    by_cases h0 : b = -1
    · rw [if_neg (by simp [h0])]
      cases hp : parentM (kindO os q) with
      | false => rw [if_pos (.inl rfl)]; exact may_p0 hQ h0 hp
      | true =>
        cases ha : aboveO os q i with
        | true => rw [if_pos (.inr rfl)]; exact may_a0 hQ h0 hp ha
        | false =>
          rw [if_neg (by simp), if_neg (by simp [h0])]
          cases hf : fitsO os i q b with
          | false => rw [if_pos rfl]; exact may_f0f hQ h0 hp ha hf
          | true => rw [if_neg (by simp)]; exact may_f0t hQ h0 hp ha hf
    · cases hb : hasO os b with
      | false => rw [if_pos ⟨h0, rfl⟩]; exact may_b hQ h0 hb
      | true =>
        rw [if_neg (by simp)]
        cases hp : parentM (kindO os q) with
        | false => rw [if_pos (.inl rfl)]; exact may_p1 hQ h0 hb hp
        | true =>
          cases ha : aboveO os q i with
          | true => rw [if_pos (.inr rfl)]; exact may_a1 hQ h0 hb hp ha
          | false =>
            rw [if_neg (by simp)]
            by_cases hu : upIO os b = (q : Int)
            · rw [if_neg (by simp [hu])]
              cases hf : fitsO os i q b with
              | false => rw [if_pos rfl]; exact may_f1f hQ h0 hb hp ha hu hf
              | true => rw [if_neg (by simp)]; exact may_f1t hQ h0 hb hp ha hu hf
            · rw [if_pos ⟨h0, hu⟩]
              exact may_u hQ h0 hb hp ha hu
end
end Go.Proofs.YtnclnijlpchdnaaGreat

namespace Go.Proofs.YtnclnijlpchdnaaGreat
open Go.RowKit

section
variable {w W W' : World} {base bA : Nat} {ns : List NodeM} {os : List OneM} {F : Nat → Prop}

theorem foldl_take {α : Type} (f : α → Nat → α) (a : α) (l : List Nat) {j x : Nat} (h : l[j]? = some x) : (l.take (j + 1)).foldl f a = f ((l.take j).foldl f a) x := by
  obtain ⟨hj, e⟩ := List.getElem?_eq_some_iff.1 h
  rw [List.take_succ_eq_append_getElem hj, List.foldl_append, e]
  rfl

theorem insert_no (h : ArS w base bA ns F) (hs : Sim ns os) (id p b : Int) (hm : mayE os id p b ≠ 0) :
    Calls Tryz.prog 15 #[.pointer (some ⟨bA, 0, none⟩), .int .i64 id, .int .i64 p, .int .i64 b] w fun e w' => e = .returned (.int .i64 (mayE os id p b)) ∧ USim F w w' base bA os := by
  have HM := hide (may_any h hs id p b)
  have HU : Hid (∀ W, Below w.heap.size w W → USim F w W base bA os) := hide (fun W hb => usim_of h hs hb)
  generalize mayE os id p b = v at HM hm ⊢
  have hz : (v != 0) = true := by simpa using hm
  clear h hs
  go_enter Tryz.func15, Tryz.ntmps15
  go_wp2_with (first | (go_at_call 24; refine (unhide HM).mono ?_; rintro e w1 ⟨rfl, hb1⟩))
  go_ret
  exact ⟨rfl, (unhide HU) _ hb1⟩

theorem field10 (w : World) (k v1 v6 v7 v8 v9 v10 v11 : Int) (v2 v4 v5 : ByteArray) (ao : Option Addr) (q cp : Nat) :
    (Instr.field 36 (.agg #[.int .i64 k, .int .i64 v1, .string v2, .slice ao q cp, .string v4, .string v5, .int .i64 v6, .int .i64 v7, .int .i64 v8, .int .i64 v9, .int .i64 v10, .int .i64 v11]) 10).run Tryz.prog w = .ok (.int .i64 v10) w := by
  kernel_rfl

/-- What Insert calls ahead of its loop, and within it. -/
structure InsQ (w : World) (base bA : Nat) (os : List OneM) (F : Nat → Prop) (i : Nat) (p b : Int) : Prop where
  may : Calls Tryz.prog 24 #[.pointer (some ⟨bA, 0, none⟩), .int .i64 i, .int .i64 p, .int .i64 b] w fun e w' => e = .returned (.int .i64 0) ∧ Below w.heap.size w w'
  see : ∀ W, Below w.heap.size w W → Calls Tryz.prog 40 #[.pointer (some ⟨bA, 0, none⟩), .int .i64 i] W fun e w' => ∃ v0 v1 v6 v7 v8 v9 v11 v2 v4 v5 ao n cp, e = .returned (.agg #[.int .i64 v0, .int .i64 v1, .string v2, .slice ao n cp, .string v4, .string v5, .int .i64 v6, .int .i64 v7, .int .i64 v8, .int .i64 v9, .int .i64 (nextO os i), .int .i64 v11]) ∧ Below w.heap.size w w'
  guest : ∀ W, Below w.heap.size w W → Calls Tryz.prog 42 #[.pointer (some ⟨bA, 0, none⟩), .int .i64 i] W fun e w' => ∃ g, e = .returned g ∧ Guest w.heap.size w' bA os i g ∧ Below w.heap.size w w'
  comers : ∀ W g, Below w.heap.size w W → Guest w.heap.size W bA os i g → Calls Tryz.prog 41 #[g] W fun e w' => ∃ a c, e = .returned (.slice a (comersO os i).length c) ∧ IntsIn w' a (comersO os i) ∧ (∀ b off, a = some ⟨b, off, none⟩ → w.heap.size ≤ b ∧ b < w'.heap.size) ∧ Below w.heap.size w w'
  few : (comersO os i).length ≤ 32768
  old : ∀ k, F k → k < w.heap.size
  start : ∀ W, Below w.heap.size w W → USim F W W base bA os

theorem insQ (h : ArS w base bA ns F) (hs : Sim ns os) (i : Nat) (hi : i < os.length) (p b : Int) (hm : mayE os i p b = 0) : InsQ w base bA os F i p b := by
  refine ⟨?_, fun W hW => ?_, fun W hW => ?_, fun W g hW hg => ?_, ?_, fun k hk => (h.lt hk).2, fun W hW => usim_of (h.below hW) hs (Below.refl _ _)⟩
  · have := may_any h hs i p b
    rw [hm] at this
    exact this
  · refine (see_kind (h.below hW) hs i hi).mono fun e w' ⟨v1, v6, v7, v8, v9, v10, v11, v2, v4, v5, ao, n, cp, h1, _, h2, _, h3⟩ => ?_
    exact ⟨_, v1, v6, v7, v8, v9, v11, v2, v4, v5, ao, n, cp, h2 ▸ h1, hW.trans (h3.mono hW.size)⟩
  · refine (guestOf_any (h.below hW) hs i hi).mono fun e w' ⟨g, h1, h2, h3⟩ => ⟨g, h1, ⟨h2.one, fun e => ?_⟩, hW.trans (h3.mono hW.size)⟩
    obtain ⟨a, c, k1, k2, k3⟩ := h2.all e
    exact ⟨a, c, k1, k2, fun b off e => ⟨Nat.le_trans hW.size (k3 b off e).1, (k3 b off e).2⟩⟩
  · exact (comers_any i w.heap.size hW.size g hg).mono fun e w' ⟨a, c, h1, h2, h3, h4⟩ => ⟨a, c, h1, h2, h3, hW.trans (h4.mono hW.size)⟩
  · unfold comersO
    split
    · exact kids_few h hs i
    · simp

set_option maxHeartbeats 4000000 in
theorem insert_other (i : Nat) (p b : Int) (hQ : InsQ w base bA os F i p b) (hbi : b ≠ (i : Int)) :
    Calls Tryz.prog 15 #[.pointer (some ⟨bA, 0, none⟩), .int .i64 i, .int .i64 p, .int .i64 b] w fun e w' => e = .returned (.int .i64 0) ∧ USim F w w' base bA ((comersO os i).foldl (putO p b) os) := by
  have hfew := hQ.few
  obtain ⟨cs, hcs⟩ : ∃ cs, comersO os i = cs := ⟨_, rfl⟩
  rw [hcs] at hfew ⊢
  have HCS := hide hcs
  have HQ := hide hQ
  have hz : (b == (i : Int)) = false := by simpa using hbi
  clear hQ hbi hcs
  go_enter Tryz.func15, Tryz.ntmps15
  go_wp2_with (first
    | (go_at_call 24; refine (unhide HQ).may.mono ?_; rintro e w1 ⟨rfl, hb⟩; have HB1 := hide hb; clear hb)
    | (go_at_call 42; refine ((unhide HQ).guest _ (unhide HB1)).mono ?_; rintro e w2 ⟨g, rfl, hg, hb⟩; have HG := hide hg; have HB2 := hide hb; clear hg hb)
    | (go_at_call 41; refine ((unhide HQ).comers _ _ (unhide HB2) (unhide HG)).mono ?_; rw [unhide HCS]; rintro e w3 ⟨ca, cc, rfl, hin, hnew, hb⟩; have HIN := hide hin; have HNEW := hide hnew; have HB3 := hide hb; clear hin hnew hb))
  have HST := hide ((unhide HQ).start w3 (unhide HB3))
  have HOLD := hide (unhide HQ).old
  go_loopg [32] cs.length (fun k s wx => ∃ j : Nat, s = .int .i64 j ∧ j + k = cs.length ∧ USim F w3 wx base bA ((cs.take j).foldl (putO p b) os))
  case atStart => exact ⟨0, rfl, by omega, by simpa using unhide HST⟩
  case round =>
    obtain ⟨j, rfl, hjk, hu⟩ := hrel
    by_cases hj : j < cs.length
    · have hjz : (j : Int) < (cs.length : Int) := by omega
      have hx : cs[j]? = some cs[j] := List.getElem?_eq_getElem hj
      generalize cs[j] = x at hx
      have hin : IntsIn wr ca cs := (unhide HIN).mod (fun b off e => hu.mod.block b ((unhide HNEW) b off e).2 (fun hf => by have := (unhide HOLD) b hf; have := ((unhide HNEW) b off e).1; omega))
      obtain ⟨ba, off, rfl, hc⟩ := hin.cells j x hx
      have HFT := hide (foldl_take (putO p b) os cs hx)
      have HU1 := hide (hu.unlink x)
      clear hu hin hx
      generalize (cs.take j).foldl (putO p b) os = os1 at *
      go_wp2_with (first
        | (go_at_call 43; refine (unhide HU1).mono ?_; rintro e w5 ⟨rfl, hu5⟩; have HU5 := hide (hu5.link p x b); clear hu5)
        | (go_at_call 44; refine (unhide HU5).mono ?_; rintro e w6 ⟨rfl, hu6⟩; have HU6 := hide hu6; clear hu6))
      go_roundg (gk - 1)
      case measure => omega
      case rel => exact ⟨j + 1, by go_num, by omega, by rw [unhide HFT]; exact unhide HU6⟩
    · have hjz : ¬ (j : Int) < (cs.length : Int) := by omega
      obtain rfl : j = cs.length := by omega
      go_wp2
      go_ret
      exact ⟨rfl, USim.after (unhide HB3) (by simpa using hu)⟩

set_option maxHeartbeats 4000000 in
theorem insert_self (i : Nat) (p : Int) (hQ : InsQ w base bA os F i p i) (v : Int) (hv : nextO os i = v) :
    Calls Tryz.prog 15 #[.pointer (some ⟨bA, 0, none⟩), .int .i64 i, .int .i64 p, .int .i64 i] w fun e w' => e = .returned (.int .i64 0) ∧ USim F w w' base bA ((comersO os i).foldl (putO p v) os) := by
  have hfew := hQ.few
  obtain ⟨cs, hcs⟩ : ∃ cs, comersO os i = cs := ⟨_, rfl⟩
  rw [hcs] at hfew ⊢
  have HCS := hide hcs
  have HQ := hide hQ
  have HV := hide hv
  have hfd := field10
  have hz : ((i : Int) == (i : Int)) = true := by simp
  clear hQ hv hcs
  go_enter Tryz.func15, Tryz.ntmps15
  set_option maxRecDepth 10000 in
  go_wp2_with (first
    | (go_at_call 24; refine (unhide HQ).may.mono ?_; rintro e w1 ⟨rfl, hb⟩; have HB1 := hide hb; clear hb)
    | (go_at_call 40; refine ((unhide HQ).see _ (unhide HB1)).mono ?_; rw [unhide HV]; rintro e w0 ⟨v0, v1, v6, v7, v8, v9, v11, v2, v4, v5, ao, n, cp, rfl, hb⟩; have HB0 := hide hb; clear hb)
    | (go_at_call 42; refine ((unhide HQ).guest _ (unhide HB0)).mono ?_; rintro e w2 ⟨g, rfl, hg, hb⟩; have HG := hide hg; have HB2 := hide hb; clear hg hb)
    | (go_at_call 41; refine ((unhide HQ).comers _ _ (unhide HB2) (unhide HG)).mono ?_; rw [unhide HCS]; rintro e w3 ⟨ca, cc, rfl, hin, hnew, hb⟩; have HIN := hide hin; have HNEW := hide hnew; have HB3 := hide hb; clear hin hnew hb))
  have HST := hide ((unhide HQ).start w3 (unhide HB3))
  have HOLD := hide (unhide HQ).old
  go_loopg [32] cs.length (fun k s wx => ∃ j : Nat, s = .int .i64 j ∧ j + k = cs.length ∧ USim F w3 wx base bA ((cs.take j).foldl (putO p v) os))
  case atStart => exact ⟨0, rfl, by omega, by simpa using unhide HST⟩
  case round =>
    obtain ⟨j, rfl, hjk, hu⟩ := hrel
    by_cases hj : j < cs.length
    · have hjz : (j : Int) < (cs.length : Int) := by omega
      have hx : cs[j]? = some cs[j] := List.getElem?_eq_getElem hj
      generalize cs[j] = x at hx
      have hin : IntsIn wr ca cs := (unhide HIN).mod (fun b off e => hu.mod.block b ((unhide HNEW) b off e).2 (fun hf => by have := (unhide HOLD) b hf; have := ((unhide HNEW) b off e).1; omega))
      obtain ⟨ba, off, rfl, hc⟩ := hin.cells j x hx
      have HFT := hide (foldl_take (putO p v) os cs hx)
      have HU1 := hide (hu.unlink x)
      clear hu hin hx
      generalize (cs.take j).foldl (putO p v) os = os1 at *
      go_wp2_with (first
        | (go_at_call 43; refine (unhide HU1).mono ?_; rintro e w5 ⟨rfl, hu5⟩; have HU5 := hide (hu5.link p x v); clear hu5)
        | (go_at_call 44; refine (unhide HU5).mono ?_; rintro e w6 ⟨rfl, hu6⟩; have HU6 := hide hu6; clear hu6))
      go_roundg (gk - 1)
      case measure => omega
      case rel => exact ⟨j + 1, by go_num, by omega, by rw [unhide HFT]; exact unhide HU6⟩
    · have hjz : ¬ (j : Int) < (cs.length : Int) := by omega
      obtain rfl : j = cs.length := by omega
      go_wp2
      go_ret
      exact ⟨rfl, USim.after (unhide HB3) (by simpa using hu)⟩

theorem mayE_has {id p b : Int} (h : mayE os id p b = 0) : hasO os id = true := by
  unfold mayE at h
  cases hh : (hasO os id && hasO os p) with
  | false => rw [hh] at h; simp at h
  | true => rw [Bool.and_eq_true] at hh; exact hh.1

theorem insert_any (h : ArS w base bA ns F) (hs : Sim ns os) (id p b : Int) :
    Calls Tryz.prog 15 #[.pointer (some ⟨bA, 0, none⟩), .int .i64 id, .int .i64 p, .int .i64 b] w fun e w' => e = .returned (.int .i64 (mayE os id p b)) ∧ USim F w w' base bA (insR os id p b) := by
  unfold insR
  by_cases hm : mayE os id p b = 0
  · rw [if_pos hm, hm]
    obtain ⟨i, o, rfl, ho⟩ := hasO_yes (mayE_has hm)
    have hQ := insQ h hs i (List.getElem?_eq_some_iff.1 ho).1 p b hm
    unfold insB
    by_cases e : b = (i : Int)
    · rw [if_pos e]
      subst e
      exact insert_self i p hQ _ rfl
    · rw [if_neg e]
      exact insert_other i p b hQ e
  · rw [if_neg hm]
    exact insert_no h hs id p b hm

theorem remove_any (h : ArS w base bA ns F) (hs : Sim ns os) (c : Int) :
    Calls Tryz.prog 16 #[.pointer (some ⟨bA, 0, none⟩), .int .i64 c] w fun e w' => e = .returned (.int .i64 (removeE os c)) ∧ USim F w w' base bA (unlinkR os c) := by
  have HU := hide (unlink_sim h hs c)
  unfold removeE
  generalize unlinkE os c = v at HU ⊢
  generalize unlinkR os c = o2 at HU ⊢
  clear h hs
  by_cases h5 : v = 5
  · rw [if_pos h5]
    have hz : (v == 5) = true := by simpa using h5
    go_enter Tryz.func16, Tryz.ntmps16
    go_wp2_with (first | (go_at_call 43; refine (unhide HU).mono ?_; rintro e w1 ⟨rfl, hu⟩; have HU1 := hide hu; clear hu))
    go_ret
    exact ⟨rfl, unhide HU1⟩
  · rw [if_neg h5]
    have hz : (v == 5) = false := by simpa using h5
    go_enter Tryz.func16, Tryz.ntmps16
    go_wp2_with (first | (go_at_call 43; refine (unhide HU).mono ?_; rintro e w1 ⟨rfl, hu⟩; have HU1 := hide hu; clear hu))
    go_ret
    exact ⟨rfl, unhide HU1⟩

theorem edSetData_any (h : ArS w base bA ns F) (hs : Sim ns os) (k : Int) (s : ByteArray) :
    Calls Tryz.prog 21 #[.pointer (some ⟨bA, 0, none⟩), .int .i64 k, .string s] w fun e w' => e = .returned (.int .i64 (setDataE os k s)) ∧ USim F w w' base bA (setDataR os k s) := by
  have HU := hide (setData_sim h hs k s)
  generalize setDataE os k s = v at HU ⊢
  generalize setDataR os k s = o2 at HU ⊢
  clear h hs
  go_enter Tryz.func21, Tryz.ntmps21
  go_wp2_with (first | (go_at_call 55; refine (unhide HU).mono ?_; rintro e w1 ⟨rfl, hu⟩; have HU1 := hide hu; clear hu))
  go_ret
  exact ⟨rfl, unhide HU1⟩
end
end Go.Proofs.YtnclnijlpchdnaaGreat

namespace Go.Proofs.YtnclnijlpchdnaaGreat
open Go.RowKit Go.Lib

def badB (x : UInt8) : Bool := noName.data.toList.contains x

theorem badB_yes {x : UInt8} (h : badB x = true) : x = 0 ∨ x = 9 ∨ x = 10 ∨ x = 12 ∨ x = 13 ∨ x = 32 ∨ x = 47 ∨ x = 61 ∨ x = 62 ∨ x = 60 ∨ x = 34 ∨ x = 39 := by
  simpa [badB, noName] using h
theorem badB_no {x : UInt8} (h : badB x = false) : x ≠ 0 ∧ x ≠ 9 ∧ x ≠ 10 ∧ x ≠ 12 ∧ x ≠ 13 ∧ x ≠ 32 ∧ x ≠ 47 ∧ x ≠ 61 ∧ x ≠ 62 ∧ x ≠ 60 ∧ x ≠ 34 ∧ x ≠ 39 := by
  simpa [badB, noName] using h
theorem ne_int {x : UInt8} (k : Nat) (h : x ≠ UInt8.ofNat k) : ((x.toNat : Int) == (k : Int)) = false := by
  rw [beq_eq_false_iff_ne]; intro e
  apply h
  have : x.toNat = k := by omega
  rw [← this]; simp

set_option maxHeartbeats 2000000 in
theorem refName_any (s : ByteArray) (w : World) (hm : s.size ≤ maxLen) :
    Calls Tryz.prog 101 #[.string s] w fun e w' => e = .returned (.bool (nameM s)) ∧ w' = w := by
  unfold maxLen at hm
  go_enter Tryz.func101, Tryz.ntmps101
  go_wp2
  go_loopg [3] s.size (fun g s2 wx => ∃ i : Nat, i + g = s.size ∧ s2 = .int .i64 i ∧ wx = w ∧ ∀ j b, j < i → s.data.toList[j]? = some b → badB b = false)
  case atStart => exact ⟨0, by omega, rfl, rfl, fun j b h => by omega⟩
  case round =>
    obtain ⟨i, hig, rfl, rfl, hno⟩ := hrel
    have HN : Aside (∀ j b, j < i → s.data.toList[j]? = some b → badB b = false) := hno
    clear hno
    cases gk with
    | zero =>
      obtain rfl : i = s.size := by omega
      have hany : (s.data.toList.any fun b => noName.data.toList.contains b) = false := by
        rw [List.any_eq_false]; intro b hb
        obtain ⟨j, hj⟩ := List.mem_iff_getElem?.1 hb
        have := HN.out j b (by have := (List.getElem?_eq_some_iff.1 hj).1; rw [Lib.size_eq]; exact this) hj
        unfold badB at this; rw [this]; simp
      have hM : nameM s = decide (1 ≤ s.size ∧ s.size ≤ 100) := by unfold nameM; rw [hany]; simp
      have HM : Aside (nameM s = decide (1 ≤ s.size ∧ s.size ≤ 100)) := hM
      clear hany hM
      have hiz : ¬ ((s.size : Int) < (s.size : Int)) := by omega
      by_cases h1 : 1 ≤ s.size
      · have h1' : (1 : Int) ≤ (s.size : Int) := by omega
        go_wp2
        go_ret
        refine ⟨?_, rfl⟩
        rw [HM.out]; simp [h1]; try omega
      · have h1' : ¬ (1 : Int) ≤ (s.size : Int) := by omega
        go_wp2
        go_ret
        refine ⟨?_, rfl⟩
        rw [HM.out]; simp [h1]
    | succ g =>
      have hi : i < s.size := by omega
      have hiz : (i : Int) < (s.size : Int) := by omega
      obtain ⟨x, hx⟩ : ∃ x : UInt8, s[i]'hi = x := ⟨_, rfl⟩
      have Hx : Aside (s.data.toList[i]? = some x) := by rw [← hx]; exact Lib.data_getElem? s i hi
      cases hb : badB x with
      | true =>
        have hM : nameM s = false := by
          have : (s.data.toList.any fun b => noName.data.toList.contains b) = true := List.any_eq_true.2 ⟨x, List.mem_of_getElem? Hx.out, hb⟩
          unfold nameM; rw [this]; simp
        have HM : Aside (nameM s = false) := hM
        have hy := badB_yes hb
        clear hM hb
        rcases hy with rfl | rfl | rfl | rfl | rfl | rfl | rfl | rfl | rfl | rfl | rfl | rfl
        all_goals go_wp2
        all_goals go_ret
        all_goals exact ⟨by rw [HM.out]; rfl, rfl⟩
      | false =>
        obtain ⟨n0, n1, n2, n3, n4, n5, n6, n7, n8, n9, n10, n11⟩ := badB_no hb
        have m0 := ne_int 0 n0
        have m1 := ne_int 9 n1
        have m2 := ne_int 10 n2
        have m3 := ne_int 12 n3
        have m4 := ne_int 13 n4
        have m5 := ne_int 32 n5
        have m6 := ne_int 47 n6
        have m7 := ne_int 61 n7
        have m8 := ne_int 62 n8
        have m9 := ne_int 60 n9
        have m10 := ne_int 34 n10
        have m11 := ne_int 39 n11
        have HBx : Aside (badB x = false) := hb
        clear n0 n1 n2 n3 n4 n5 n6 n7 n8 n9 n10 n11 hb
        simp only [Int.cast_ofNat_Int] at m0 m1 m2 m3 m4 m5 m6 m7 m8 m9 m10 m11
        go_wp2
        go_roundg g
        case measure => omega
        case rel =>
          refine ⟨i + 1, by omega, by first | rfl | simp, rfl, fun j b hj hbj => ?_⟩
          by_cases e : j = i
          · subst e; rw [Hx.out] at hbj; cases hbj; exact HBx.out
          · exact HN.out j b (by omega) hbj

theorem tagM_no {s : ByteArray} (h : nameM s = false) : tagM s = false := by unfold tagM; rw [h]; rfl
theorem tagM_of {s : ByteArray} {c : UInt8} (h : nameM s = true) (hc : s.data.toList[0]? = some c) : tagM s = (decide (97 ≤ c.toNat ∧ c.toNat ≤ 122) || decide (65 ≤ c.toNat ∧ c.toNat ≤ 90)) := by
  unfold tagM
  rw [h]
  cases hl : s.data.toList with
  | nil => rw [hl] at hc; simp at hc
  | cons d l => rw [hl] at hc; simp at hc; subst hc; simp
theorem nameM_size {s : ByteArray} (h : nameM s = true) : 0 < s.size ∧ s.size ≤ 100 := by
  unfold nameM at h
  rw [Bool.and_eq_true] at h
  have := of_decide_eq_true h.1
  omega

set_option maxHeartbeats 1000000 in
theorem elemName_any (s : ByteArray) (w : World) (hm : s.size ≤ maxLen) :
    Calls Tryz.prog 48 #[.string s] w fun e w' => e = .returned (.bool (tagM s)) ∧ Below w.heap.size w w' := by
  have HN := hide (name_any s w hm)
  cases hn : nameM s
  all_goals rw [hn] at HN
  · rw [tagM_no hn]
    clear hn hm
    go_enter Tryz.func48, Tryz.ntmps48
    go_wp2_with (first | (go_at_call 39; refine (unhide HN).mono ?_; rintro e w1 ⟨rfl, hb⟩; have HB := hide hb; clear hb))
    go_ret
    exact ⟨rfl, unhide HB⟩
  · obtain ⟨h0, h100⟩ := nameM_size hn
    obtain ⟨x, hx⟩ : ∃ x : UInt8, s[0]'h0 = x := ⟨_, rfl⟩
    have hc : s.data.toList[0]? = some x := by rw [← hx]; exact Lib.data_getElem? s 0 h0
    have HT := hide (tagM_of hn hc)
    have HCAP := hide (fun W => isCap_any x W)
    have hx255 : x.toNat ≤ 255 := by have := x.toNat_lt; omega
    clear hn hc hm
    have hz : (0 : Int) < (s.size : Int) := by omega
    by_cases h1 : (97 : Int) ≤ (x.toNat : Int)
    · by_cases h2 : (x.toNat : Int) ≤ 122
      · go_enter Tryz.func48, Tryz.ntmps48
        go_wp2_with (first
          | (go_at_call 39; refine (unhide HN).mono ?_; rintro e w1 ⟨rfl, hb⟩; have HB := hide hb; clear hb)
          | (go_at_call 87; refine ((unhide HCAP) _).mono ?_; rintro e w2 ⟨rfl, rfl⟩))
        go_ret
        refine ⟨?_, unhide HB⟩
        rw [unhide HT, decide_eq_true (show 97 ≤ x.toNat ∧ x.toNat ≤ 122 by omega)]
        rfl
      · go_enter Tryz.func48, Tryz.ntmps48
        go_wp2_with (first
          | (go_at_call 39; refine (unhide HN).mono ?_; rintro e w1 ⟨rfl, hb⟩; have HB := hide hb; clear hb)
          | (go_at_call 87; refine ((unhide HCAP) _).mono ?_; rintro e w2 ⟨rfl, rfl⟩))
        go_ret
        refine ⟨?_, unhide HB⟩
        rw [unhide HT, decide_eq_false (show ¬ (97 ≤ x.toNat ∧ x.toNat ≤ 122) by omega)]
        simp
        omega
    · go_enter Tryz.func48, Tryz.ntmps48
      go_wp2_with (first
        | (go_at_call 39; refine (unhide HN).mono ?_; rintro e w1 ⟨rfl, hb⟩; have HB := hide hb; clear hb)
        | (go_at_call 87; refine ((unhide HCAP) _).mono ?_; rintro e w2 ⟨rfl, rfl⟩))
      go_ret
      refine ⟨?_, unhide HB⟩
      rw [unhide HT, decide_eq_false (show ¬ (97 ≤ x.toNat ∧ x.toNat ≤ 122) by omega)]
      simp

set_option maxHeartbeats 1000000 in
theorem refTag_any (s : ByteArray) (w : World) (hm : s.size ≤ maxLen) :
    Calls Tryz.prog 74 #[.string s] w fun e w' => e = .returned (.bool (tagM s)) ∧ Below w.heap.size w w' := by
  have HN := hide (refName_any s w hm)
  cases hn : nameM s
  all_goals rw [hn] at HN
  · rw [tagM_no hn]
    clear hn hm
    go_enter Tryz.func74, Tryz.ntmps74
    go_wp2_with (first | (go_at_call 101; refine (unhide HN).mono ?_; rintro e w1 ⟨rfl, rfl⟩))
    go_ret
    exact ⟨rfl, Below.refl _ _⟩
  · obtain ⟨h0, h100⟩ := nameM_size hn
    obtain ⟨x, hx⟩ : ∃ x : UInt8, s[0]'h0 = x := ⟨_, rfl⟩
    have hc : s.data.toList[0]? = some x := by rw [← hx]; exact Lib.data_getElem? s 0 h0
    have HT := hide (tagM_of hn hc)
    have hx255 : x.toNat ≤ 255 := by have := x.toNat_lt; omega
    clear hn hc hm
    have hz : (0 : Int) < (s.size : Int) := by omega
    by_cases h1 : (97 : Int) ≤ (x.toNat : Int)
    · by_cases h2 : (x.toNat : Int) ≤ 122
      · go_enter Tryz.func74, Tryz.ntmps74
        go_wp2_with (first | (go_at_call 101; refine (unhide HN).mono ?_; rintro e w1 ⟨rfl, rfl⟩))
        go_ret
        refine ⟨?_, Below.refl _ _⟩
        rw [unhide HT, decide_eq_true (show 97 ≤ x.toNat ∧ x.toNat ≤ 122 by omega)]
        rfl
      · go_enter Tryz.func74, Tryz.ntmps74
        have h3 : (65 : Int) ≤ (x.toNat : Int) := by omega
        have h4 : ¬ (x.toNat : Int) ≤ 90 := by omega
        go_wp2_with (first | (go_at_call 101; refine (unhide HN).mono ?_; rintro e w1 ⟨rfl, rfl⟩))
        go_ret
        refine ⟨?_, Below.refl _ _⟩
        rw [unhide HT, decide_eq_false (show ¬ (97 ≤ x.toNat ∧ x.toNat ≤ 122) by omega), decide_eq_false (show ¬ (65 ≤ x.toNat ∧ x.toNat ≤ 90) by omega)]
        first | rfl | (simp [h4]; omega)
    · by_cases h3 : (65 : Int) ≤ (x.toNat : Int)
      · go_enter Tryz.func74, Tryz.ntmps74
        go_wp2_with (first | (go_at_call 101; refine (unhide HN).mono ?_; rintro e w1 ⟨rfl, rfl⟩))
        go_ret
        refine ⟨?_, Below.refl _ _⟩
        rw [unhide HT, decide_eq_false (show ¬ (97 ≤ x.toNat ∧ x.toNat ≤ 122) by omega)]
        by_cases h4 : x.toNat ≤ 90
        · rw [decide_eq_true (show 65 ≤ x.toNat ∧ x.toNat ≤ 90 by omega)]
          simp; omega
        · rw [decide_eq_false (show ¬ (65 ≤ x.toNat ∧ x.toNat ≤ 90) by omega)]
          simp; omega
      · go_enter Tryz.func74, Tryz.ntmps74
        go_wp2_with (first | (go_at_call 101; refine (unhide HN).mono ?_; rintro e w1 ⟨rfl, rfl⟩))
        go_ret
        refine ⟨?_, Below.refl _ _⟩
        rw [unhide HT, decide_eq_false (show ¬ (97 ≤ x.toNat ∧ x.toNat ≤ 122) by omega), decide_eq_false (show ¬ (65 ≤ x.toNat ∧ x.toNat ≤ 90) by omega)]
        first | rfl | simp [h3]
end Go.Proofs.YtnclnijlpchdnaaGreat

namespace Go.Proofs.YtnclnijlpchdnaaGreat
open Go.RowKit

theorem path_mono {f g : Nat → Option Int} (hfg : ∀ i m, f i = some m → g i = some m) : ∀ {l : List Nat} {k : Int}, PathOf f k l → PathOf g k l
  | [], _, h => h
  | i :: r, k, h => by
    obtain ⟨e, m, hm, hr⟩ := h
    exact ⟨e, m, hfg i m hm, path_mono hfg hr⟩
theorem upO_ext {os ext : List OneM} : ∀ i m, upO os i = some m → upO (os ++ ext) i = some m := by
  intro i m h
  unfold upO at h ⊢
  cases ho : os[i]? with
  | none => rw [ho] at h; simp at h
  | some x =>
    have hlt := (List.getElem?_eq_some_iff.1 ho).1
    rw [List.getElem?_append_left hlt]
    exact h
theorem link_ext {ns : List NodeM} {os ext : List OneM} {q : OneM} (hs : Sim ns os) (hq : ext[0]? = some q) {p : Nat} {op : OneM} (hop : os[p]? = some op) (hpar : parentM op.kind = true) (hu : q.up = -1) (h1 : q.kind = 1) :
    linkE (os ++ ext) p os.length (-1) = 0 := by
  have hlt : p < os.length := (List.getElem?_eq_some_iff.1 hop).1
  have hop' : (os ++ ext)[p]? = some op := by rw [List.getElem?_append_left hlt]; exact hop
  have hq' : (os ++ ext)[os.length]? = some q := by rw [List.getElem?_append_right (Nat.le_refl _)]; simpa using hq
  obtain ⟨path, hp⟩ := hs.ends p hlt
  have hab : aboveO (os ++ ext) p os.length = false := by
    rw [aboveO_of hop' (hasO_of hq') (path_mono upO_ext hp)]
    cases hx : inPath path (os.length : Int) with
    | false => rfl
    | true =>
      have := path_in hp _ (mem_inPath.1 hx)
      omega
  unfold linkE
  rw [hasO_of hop', hasO_of hq', kindO_of hop', kindO_of hq', upIO_of hq', hab, hpar]
  simp [h1, hu]

theorem field01 (w : World) (k v1 v6 v7 v8 v9 v10 v11 : Int) (v2 v4 v5 : ByteArray) (ao : Option Addr) (q cp : Nat) :
    (Instr.field 36 (.agg #[.int .i64 k, .int .i64 v1, .string v2, .slice ao q cp, .string v4, .string v5, .int .i64 v6, .int .i64 v7, .int .i64 v8, .int .i64 v9, .int .i64 v10, .int .i64 v11]) 1).run Tryz.prog w = .ok (.int .i64 v1) w := by
  kernel_rfl

section
variable {w : World} {base bA : Nat} {ns : List NodeM} {os : List OneM} {F : Nat → Prop}

/-- What the calls that name a node ask. -/
structure AskN (w : World) (bA : Nat) (os : List OneM) (q : Nat) : Prop where
  find : Calls Tryz.prog 45 #[.pointer (some ⟨bA, 0, none⟩), .slice (some ⟨w.heap.size, 0, none⟩) 1 1] (w.alloc (.cells #[.int .i64 q] 3)) fun e w' => e = .returned (.int .i64 0) ∧ w' = w.alloc (.cells #[.int .i64 q] 3)
  see : ∀ W, Below w.heap.size w W → Calls Tryz.prog 40 #[.pointer (some ⟨bA, 0, none⟩), .int .i64 q] W fun e w' => ∃ v6 v7 v8 v9 v10 v11 v2 v4 v5 ao n cp, e = .returned (.agg #[.int .i64 (kindO os q), .int .i64 (spaceO os q), .string v2, .slice ao n cp, .string v4, .string v5, .int .i64 v6, .int .i64 v7, .int .i64 v8, .int .i64 v9, .int .i64 v10, .int .i64 v11]) ∧ Below W.heap.size W w'
  par : ∀ W, Below w.heap.size w W → Calls Tryz.prog 46 #[.pointer (some ⟨bA, 0, none⟩), .int .i64 q] W fun e w' => e = .returned (.bool (parentM (kindO os q))) ∧ Below W.heap.size W w'
  len : ∀ W, Below w.heap.size w W → Calls Tryz.prog 34 #[.pointer (some ⟨bA, 0, none⟩)] W fun e w' => e = .returned (.int .i64 os.length) ∧ W = w'
  kids : ∀ W, Below w.heap.size w W → Calls Tryz.prog 11 #[.pointer (some ⟨bA, 0, none⟩), .int .i64 0] W fun e w' => ∃ a c, e = .returned (.slice a (kidsO os 0).length c) ∧ IntsIn w' a (kidsO os 0) ∧ Below W.heap.size W w'
  cnt : ∀ W a c, Below w.heap.size w W → IntsIn W a (kidsO os 0) → Calls Tryz.prog 49 #[.pointer (some ⟨bA, 0, none⟩), .slice a (kidsO os 0).length c, .slice (some ⟨W.heap.size, 0, none⟩) 1 1] (W.alloc (.cells #[.int .i64 1] 3)) fun e w' => e = .returned (.int .i64 (cntO os (kidsO os 0) [1])) ∧ Below W.heap.size W w'

theorem askN (h : ArS w base bA ns F) (hs : Sim ns os) (q : Nat) (hq : q < os.length) : AskN w bA os q := by
  have hb : Below w.heap.size w (w.alloc (.cells #[.int .i64 (q : Int)] 3)) := (Below.refl _ w).alloc (Nat.le_refl _) _
  have hq' : hasO os (q : Int) = true := decide_eq_true (by omega)
  refine ⟨?_, fun W hW => ?_, fun W hW => ?_, fun W hW => lenO (h.below hW) hs, fun W hW => ?_, fun W a c hW hi => ?_⟩
  · have := find1 (h.below hb) hs q w.heap.size 1 (by simp)
    rw [hq'] at this
    exact this
  · refine (see_kind (h.below hW) hs q hq).mono fun e w' ⟨v1, v6, v7, v8, v9, v10, v11, v2, v4, v5, ao, n, cp, h1, _, _, h2, h3⟩ => ?_
    exact ⟨v6, v7, v8, v9, v10, v11, v2, v4, v5, ao, n, cp, h2 ▸ h1, h3⟩
  · have := editParent (h.below hW) hs q _ (List.getElem?_eq_getElem hq)
    rw [kindO_of (List.getElem?_eq_getElem hq)]
    exact this
  · refine (kids_sim (h.below hW) hs 0).mono fun e w' ⟨v, h1, h2, h3⟩ => ?_
    obtain ⟨a, c, rfl, h4, _⟩ := ownsRow_ints h2
    exact ⟨a, c, h1, h4, h3⟩
  · exact count1 (h.below hW) hs a c _ hi (kids_lt hs 0) (kids_few h hs 0) 1
end

section
variable {w : World} {bA : Nat} {os : List OneM} {q : Nat}

set_option maxHeartbeats 2000000 in
theorem an_kind (hQ : AskN w bA os q) (s : ByteArray) (k : Int) (hk : kindO os q = k) (h1 : k ≠ 1) :
    Calls Tryz.prog 52 #[.pointer (some ⟨bA, 0, none⟩), .int .i64 q, .string s] w fun e w' => e = .returned (.tuple #[.string ⟨#[]⟩, .int .i64 10]) ∧ Below w.heap.size w w' := by
  have HQ := hide hQ
  have hf0 := field0
  have hf1 := field01
  have HK := hide hk
  have z : (k != 1) = true := by simpa using h1
  clear hQ hk
  go_enter Tryz.func52, Tryz.ntmps52
  set_option maxRecDepth 10000 in
  go_wp2_with (first
    | (go_at_call 45; refine (unhide HQ).find.mono ?_; rintro e w1 ⟨rfl, rfl⟩; have HBC := hide (show Below w.heap.size w (w.alloc (.cells #[.int .i64 (q : Int)] 3)) from (Below.refl _ w).alloc (Nat.le_refl _) _))
    | (go_at_call 40; refine ((unhide HQ).see _ (unhide HBC)).mono ?_; rw [unhide HK]; rintro e w2 ⟨v6, v7, v8, v9, v10, v11, v2, v4, v5, ao, n, cp, rfl, hb⟩; have HBC := hide ((unhide HBC).trans (hb.mono (unhide HBC).size)); clear hb))
  go_ret2
  exact ⟨rfl, (unhide HBC).alloc (unhide HBC).size _⟩

set_option maxHeartbeats 2000000 in
theorem an_name (hQ : AskN w bA os q) (s : ByteArray) (hm : s.size ≤ maxLen) (hk : kindO os q = 1) (hn : nameM s = false) :
    Calls Tryz.prog 52 #[.pointer (some ⟨bA, 0, none⟩), .int .i64 q, .string s] w fun e w' => e = .returned (.tuple #[.string ⟨#[]⟩, .int .i64 22]) ∧ Below w.heap.size w w' := by
  have HQ := hide hQ
  have hf0 := field0
  have hf1 := field01
  have HK := hide hk
  have HNM : Hid (∀ W, Calls Tryz.prog 39 #[.string s] W fun e w' => e = .returned (.bool false) ∧ Below W.heap.size W w') := hide (fun W => by have := name_any s W hm; rw [hn] at this; exact this)
  clear hQ hk hm hn
  go_enter Tryz.func52, Tryz.ntmps52
  set_option maxRecDepth 10000 in
  go_wp2_with (first
    | (go_at_call 45; refine (unhide HQ).find.mono ?_; rintro e w1 ⟨rfl, rfl⟩; have HBC := hide (show Below w.heap.size w (w.alloc (.cells #[.int .i64 (q : Int)] 3)) from (Below.refl _ w).alloc (Nat.le_refl _) _))
    | (go_at_call 40; refine ((unhide HQ).see _ (unhide HBC)).mono ?_; rw [unhide HK]; rintro e w2 ⟨v6, v7, v8, v9, v10, v11, v2, v4, v5, ao, n, cp, rfl, hb⟩; have HBC := hide ((unhide HBC).trans (hb.mono (unhide HBC).size)); clear hb)
    | (go_at_call 39; refine ((unhide HNM) _).mono ?_; rintro e w3 ⟨rfl, hb⟩; have c1 := (bcell hb).1 w2.heap.size 1 (by simp); simp at c1; have HBC := hide (((unhide HBC).alloc (unhide HBC).size _).trans (hb.mono ((unhide HBC).alloc (unhide HBC).size _).size)); clear hb))
  go_ret2
  exact ⟨rfl, unhide HBC⟩

set_option maxHeartbeats 2000000 in
theorem an_html (hQ : AskN w bA os q) (s : ByteArray) (hm : s.size ≤ maxLen) (hk : kindO os q = 1) (hn : nameM s = true) (h0 : spaceO os q = 0) :
    Calls Tryz.prog 52 #[.pointer (some ⟨bA, 0, none⟩), .int .i64 q, .string s] w fun e w' => e = .returned (.tuple #[.string (lowS s), .int .i64 0]) ∧ Below w.heap.size w w' := by
  have HQ := hide hQ
  have hf0 := field0
  have hf1 := field01
  have HK := hide hk
  have HZ := hide h0
  have H100 := hide (nameM_size hn).2
  have HNM : Hid (∀ W, Calls Tryz.prog 39 #[.string s] W fun e w' => e = .returned (.bool true) ∧ Below W.heap.size W w') := hide (fun W => by have := name_any s W hm; rw [hn] at this; exact this)
  clear hQ hk hm hn h0
  go_enter Tryz.func52, Tryz.ntmps52
  set_option maxRecDepth 10000 in
  go_wp2_with (first
    | (go_at_call 45; refine (unhide HQ).find.mono ?_; rintro e w1 ⟨rfl, rfl⟩; have HBC := hide (show Below w.heap.size w (w.alloc (.cells #[.int .i64 (q : Int)] 3)) from (Below.refl _ w).alloc (Nat.le_refl _) _))
    | (go_at_call 40; refine ((unhide HQ).see _ (unhide HBC)).mono ?_; rw [unhide HK]; rw [unhide HZ]; rintro e w2 ⟨v6, v7, v8, v9, v10, v11, v2, v4, v5, ao, n, cp, rfl, hb⟩; have HBC := hide ((unhide HBC).trans (hb.mono (unhide HBC).size)); clear hb)
    | (go_at_call 39; refine ((unhide HNM) _).mono ?_; rintro e w3 ⟨rfl, hb⟩; have c1 := (bcell hb).1 w2.heap.size 1 (by simp); simp at c1; have HBC := hide (((unhide HBC).alloc (unhide HBC).size _).trans (hb.mono ((unhide HBC).alloc (unhide HBC).size _).size)); clear hb)
    | (go_at_call 51; refine (small_any s _ (unhide H100)).mono ?_; rintro e w4 ⟨rfl, hb⟩; have HBC := hide ((unhide HBC).trans (hb.mono (unhide HBC).size)); clear hb))
  go_ret2
  exact ⟨rfl, unhide HBC⟩

set_option maxHeartbeats 2000000 in
theorem an_else (hQ : AskN w bA os q) (s : ByteArray) (hm : s.size ≤ maxLen) (hk : kindO os q = 1) (hn : nameM s = true) (z : Int) (h0 : spaceO os q = z) (hz : z ≠ 0) :
    Calls Tryz.prog 52 #[.pointer (some ⟨bA, 0, none⟩), .int .i64 q, .string s] w fun e w' => e = .returned (.tuple #[.string s, .int .i64 0]) ∧ Below w.heap.size w w' := by
  have HQ := hide hQ
  have hf0 := field0
  have hf1 := field01
  have HK := hide hk
  have HZ := hide h0
  have z1 : (z == 0) = false := by simpa using hz
  have HNM : Hid (∀ W, Calls Tryz.prog 39 #[.string s] W fun e w' => e = .returned (.bool true) ∧ Below W.heap.size W w') := hide (fun W => by have := name_any s W hm; rw [hn] at this; exact this)
  clear hQ hk hm hn h0
  go_enter Tryz.func52, Tryz.ntmps52
  set_option maxRecDepth 10000 in
  go_wp2_with (first
    | (go_at_call 45; refine (unhide HQ).find.mono ?_; rintro e w1 ⟨rfl, rfl⟩; have HBC := hide (show Below w.heap.size w (w.alloc (.cells #[.int .i64 (q : Int)] 3)) from (Below.refl _ w).alloc (Nat.le_refl _) _))
    | (go_at_call 40; refine ((unhide HQ).see _ (unhide HBC)).mono ?_; rw [unhide HK]; rw [unhide HZ]; rintro e w2 ⟨v6, v7, v8, v9, v10, v11, v2, v4, v5, ao, n, cp, rfl, hb⟩; have HBC := hide ((unhide HBC).trans (hb.mono (unhide HBC).size)); clear hb)
    | (go_at_call 39; refine ((unhide HNM) _).mono ?_; rintro e w3 ⟨rfl, hb⟩; have c1 := (bcell hb).1 w2.heap.size 1 (by simp); simp at c1; have HBC := hide (((unhide HBC).alloc (unhide HBC).size _).trans (hb.mono ((unhide HBC).alloc (unhide HBC).size _).size)); clear hb))
  go_ret2
  exact ⟨rfl, unhide HBC⟩

set_option maxHeartbeats 2000000 in
theorem at_long (hQ : AskN w bA os q) (s : ByteArray) (h1 : (1048576 : Int) < (s.size : Int)) :
    Calls Tryz.prog 17 #[.pointer (some ⟨bA, 0, none⟩), .string s, .int .i64 q] w fun e w' => e = .returned (.tuple #[.int .i64 0, .int .i64 2]) ∧ Below w.heap.size w w' := by
  have HQ := hide hQ
  clear hQ
  go_enter Tryz.func17, Tryz.ntmps17
  set_option maxRecDepth 10000 in
  go_wp2_with (first
    | (go_at_call 45; refine (unhide HQ).find.mono ?_; rintro e w1 ⟨rfl, rfl⟩; have HBC := hide (show Below w.heap.size w (w.alloc (.cells #[.int .i64 (q : Int)] 3)) from (Below.refl _ w).alloc (Nat.le_refl _) _)))
  go_ret2
  exact ⟨rfl, unhide HBC⟩

set_option maxHeartbeats 2000000 in
theorem at_full (hQ : AskN w bA os q) (s : ByteArray) (nn : Int) (hl : (os.length : Int) = nn) (h1 : ¬ (1048576 : Int) < (s.size : Int)) (h2 : (32768 : Int) ≤ nn) :
    Calls Tryz.prog 17 #[.pointer (some ⟨bA, 0, none⟩), .string s, .int .i64 q] w fun e w' => e = .returned (.tuple #[.int .i64 0, .int .i64 9]) ∧ Below w.heap.size w w' := by
  have HQ := hide hQ
  have HLN := hide hl
  clear hQ hl
  go_enter Tryz.func17, Tryz.ntmps17
  set_option maxRecDepth 10000 in
  go_wp2_with (first
    | (go_at_call 45; refine (unhide HQ).find.mono ?_; rintro e w1 ⟨rfl, rfl⟩; have HBC := hide (show Below w.heap.size w (w.alloc (.cells #[.int .i64 (q : Int)] 3)) from (Below.refl _ w).alloc (Nat.le_refl _) _))
    | (go_at_call 34; refine ((unhide HQ).len _ (unhide HBC)).mono ?_; rw [unhide HLN]; rintro e w2 ⟨rfl, rfl⟩))
  go_ret2
  exact ⟨rfl, unhide HBC⟩

set_option maxHeartbeats 2000000 in
theorem at_doc (hQ : AskN w bA os q) (s : ByteArray) (nn : Int) (hl : (os.length : Int) = nn) (h1 : ¬ (1048576 : Int) < (s.size : Int)) (h2 : ¬ (32768 : Int) ≤ nn) (h3 : q = 0) :
    Calls Tryz.prog 17 #[.pointer (some ⟨bA, 0, none⟩), .string s, .int .i64 q] w fun e w' => e = .returned (.tuple #[.int .i64 0, .int .i64 20]) ∧ Below w.heap.size w w' := by
  have HQ := hide hQ
  subst h3
  have HLN := hide hl
  clear hQ hl
  go_enter Tryz.func17, Tryz.ntmps17
  set_option maxRecDepth 10000 in
  go_wp2_with (first
    | (go_at_call 45; refine (unhide HQ).find.mono ?_; rintro e w1 ⟨rfl, rfl⟩; have HBC := hide (show Below w.heap.size w (w.alloc (.cells #[.int .i64 ((0 : Nat) : Int)] 3)) from (Below.refl _ w).alloc (Nat.le_refl _) _))
    | (go_at_call 34; refine ((unhide HQ).len _ (unhide HBC)).mono ?_; rw [unhide HLN]; rintro e w2 ⟨rfl, rfl⟩))
  go_ret2
  exact ⟨rfl, unhide HBC⟩

set_option maxHeartbeats 2000000 in
theorem at_par (hQ : AskN w bA os q) (s : ByteArray) (nn : Int) (hl : (os.length : Int) = nn) (h1 : ¬ (1048576 : Int) < (s.size : Int)) (h2 : ¬ (32768 : Int) ≤ nn) (h3 : q ≠ 0) (hp : parentM (kindO os q) = false) :
    Calls Tryz.prog 17 #[.pointer (some ⟨bA, 0, none⟩), .string s, .int .i64 q] w fun e w' => e = .returned (.tuple #[.int .i64 0, .int .i64 20]) ∧ Below w.heap.size w w' := by
  have HQ := hide hQ
  have HPAR := hide hp
  have HLN := hide hl
  have z1 : ((q : Int) == 0) = false := by simpa using h3
  have z2 : ¬ (q : Int) = 0 := by omega
  clear hQ hp hl
  go_enter Tryz.func17, Tryz.ntmps17
  set_option maxRecDepth 10000 in
  go_wp2_with (first
    | (go_at_call 45; refine (unhide HQ).find.mono ?_; rintro e w1 ⟨rfl, rfl⟩; have HBC := hide (show Below w.heap.size w (w.alloc (.cells #[.int .i64 (q : Int)] 3)) from (Below.refl _ w).alloc (Nat.le_refl _) _))
    | (go_at_call 34; refine ((unhide HQ).len _ (unhide HBC)).mono ?_; rw [unhide HLN]; rintro e w2 ⟨rfl, rfl⟩)
    | (go_at_call 46; refine ((unhide HQ).par _ (unhide HBC)).mono ?_; rw [unhide HPAR]; rintro e w3 ⟨rfl, hb⟩; have HBC := hide ((unhide HBC).trans (hb.mono (unhide HBC).size)); clear hb))
  go_ret2
  exact ⟨rfl, unhide HBC⟩

set_option maxHeartbeats 2000000 in
theorem at_ok {w0 : World} {base : Nat} {F : Nat → Prop} {os1 : List OneM} (hQ : AskN w bA os q) (s : ByteArray) (nn : Int) (hl : (os.length : Int) = nn) (h1 : ¬ (1048576 : Int) < (s.size : Int)) (h2 : ¬ (32768 : Int) ≤ nn) (h3 : q ≠ 0) (hp : parentM (kindO os q) = true)
    (hT : ∀ W, Below w.heap.size w W → Calls Tryz.prog 47 #[.pointer (some ⟨bA, 0, none⟩), .string s] W fun e w6 => e = .returned (.tuple #[.int .i64 nn, .int .i64 0]) ∧ Calls Tryz.prog 44 #[.pointer (some ⟨bA, 0, none⟩), .int .i64 q, .int .i64 nn, .int .i64 (-1)] w6 fun e w' => e = .returned (.int .i64 0) ∧ USim F w0 w' base bA os1) :
    Calls Tryz.prog 17 #[.pointer (some ⟨bA, 0, none⟩), .string s, .int .i64 q] w fun e w' => e = .returned (.tuple #[.int .i64 nn, .int .i64 0]) ∧ USim F w0 w' base bA os1 := by
  have HQ := hide hQ
  have HPAR := hide hp
  have HLN := hide hl
  have HT := hide hT
  have z1 : ((q : Int) == 0) = false := by simpa using h3
  have z2 : ¬ (q : Int) = 0 := by omega
  clear hQ hp hT hl
  go_enter Tryz.func17, Tryz.ntmps17
  set_option maxRecDepth 10000 in
  go_wp2_with (first
    | (go_at_call 45; refine (unhide HQ).find.mono ?_; rintro e w1 ⟨rfl, rfl⟩; have HBC := hide (show Below w.heap.size w (w.alloc (.cells #[.int .i64 (q : Int)] 3)) from (Below.refl _ w).alloc (Nat.le_refl _) _))
    | (go_at_call 34; refine ((unhide HQ).len _ (unhide HBC)).mono ?_; rw [unhide HLN]; rintro e w2 ⟨rfl, rfl⟩)
    | (go_at_call 46; refine ((unhide HQ).par _ (unhide HBC)).mono ?_; rw [unhide HPAR]; rintro e w3 ⟨rfl, hb⟩; have HBC := hide ((unhide HBC).trans (hb.mono (unhide HBC).size)); clear hb)
    | (go_at_call 47; refine ((unhide HT) _ (unhide HBC)).mono ?_; rintro e w6 ⟨rfl, H6'⟩; have H6 := hide H6'; clear H6')
    | (go_at_call 44; refine (unhide H6).mono ?_; rintro e w7 ⟨rfl, hu7⟩; have HU7 := hide hu7; clear hu7))
  go_ret2
  exact ⟨rfl, unhide HU7⟩

set_option maxHeartbeats 2000000 in
theorem ae_tag (hQ : AskN w bA os q) (s : ByteArray) (hg : ∀ W, Calls Tryz.prog 48 #[.string s] W fun e w' => e = .returned (.bool false) ∧ Below W.heap.size W w') :
    Calls Tryz.prog 18 #[.pointer (some ⟨bA, 0, none⟩), .string s, .int .i64 q] w fun e w' => e = .returned (.tuple #[.int .i64 0, .int .i64 22]) ∧ Below w.heap.size w w' := by
  have HQ := hide hQ
  have HTG := hide hg
  clear hQ hg
  go_enter Tryz.func18, Tryz.ntmps18
  set_option maxRecDepth 10000 in
  go_wp2_with (first
    | (go_at_call 45; refine (unhide HQ).find.mono ?_; rintro e w1 ⟨rfl, rfl⟩; have HBC := hide (show Below w.heap.size w (w.alloc (.cells #[.int .i64 (q : Int)] 3)) from (Below.refl _ w).alloc (Nat.le_refl _) _))
    | (go_at_call 48; refine ((unhide HTG) _).mono ?_; rintro e w2 ⟨rfl, hb⟩; have HBC := hide ((unhide HBC).trans (hb.mono (unhide HBC).size)); clear hb))
  go_ret2
  exact ⟨rfl, unhide HBC⟩

set_option maxHeartbeats 2000000 in
theorem ae_par (hQ : AskN w bA os q) (s : ByteArray) (hg : ∀ W, Calls Tryz.prog 48 #[.string s] W fun e w' => e = .returned (.bool true) ∧ Below W.heap.size W w') (hp : parentM (kindO os q) = false) :
    Calls Tryz.prog 18 #[.pointer (some ⟨bA, 0, none⟩), .string s, .int .i64 q] w fun e w' => e = .returned (.tuple #[.int .i64 0, .int .i64 20]) ∧ Below w.heap.size w w' := by
  have HQ := hide hQ
  have HTG := hide hg
  have HPAR := hide hp
  clear hQ hg hp
  go_enter Tryz.func18, Tryz.ntmps18
  set_option maxRecDepth 10000 in
  go_wp2_with (first
    | (go_at_call 45; refine (unhide HQ).find.mono ?_; rintro e w1 ⟨rfl, rfl⟩; have HBC := hide (show Below w.heap.size w (w.alloc (.cells #[.int .i64 (q : Int)] 3)) from (Below.refl _ w).alloc (Nat.le_refl _) _))
    | (go_at_call 48; refine ((unhide HTG) _).mono ?_; rintro e w2 ⟨rfl, hb⟩; have HBC := hide ((unhide HBC).trans (hb.mono (unhide HBC).size)); clear hb)
    | (go_at_call 46; refine ((unhide HQ).par _ (unhide HBC)).mono ?_; rw [unhide HPAR]; rintro e w3 ⟨rfl, hb⟩; have HBC := hide ((unhide HBC).trans (hb.mono (unhide HBC).size)); clear hb))
  go_ret2
  exact ⟨rfl, unhide HBC⟩

set_option maxHeartbeats 2000000 in
theorem ae_two (hQ : AskN w bA os q) (s : ByteArray) (hg : ∀ W, Calls Tryz.prog 48 #[.string s] W fun e w' => e = .returned (.bool true) ∧ Below W.heap.size W w') (hp : parentM (kindO os q) = true) (h0 : q = 0) (m : Nat) (hc : cntO os (kidsO os 0) [1] = m) (hm : 0 < m) :
    Calls Tryz.prog 18 #[.pointer (some ⟨bA, 0, none⟩), .string s, .int .i64 q] w fun e w' => e = .returned (.tuple #[.int .i64 0, .int .i64 20]) ∧ Below w.heap.size w w' := by
  have HQ := hide hQ
  have HTG := hide hg
  have HPAR := hide hp
  have HC := hide hc
  subst h0
  have z : (0 : Int) < (m : Int) := by omega
  clear hQ hg hp hc
  go_enter Tryz.func18, Tryz.ntmps18
  set_option maxRecDepth 10000 in
  go_wp2_with (first
    | (go_at_call 45; refine (unhide HQ).find.mono ?_; rintro e w1 ⟨rfl, rfl⟩; have HBC := hide (show Below w.heap.size w (w.alloc (.cells #[.int .i64 ((0 : Nat) : Int)] 3)) from (Below.refl _ w).alloc (Nat.le_refl _) _))
    | (go_at_call 48; refine ((unhide HTG) _).mono ?_; rintro e w2 ⟨rfl, hb⟩; have HBC := hide ((unhide HBC).trans (hb.mono (unhide HBC).size)); clear hb)
    | (go_at_call 46; refine ((unhide HQ).par _ (unhide HBC)).mono ?_; rw [unhide HPAR]; rintro e w3 ⟨rfl, hb⟩; have HBC := hide ((unhide HBC).trans (hb.mono (unhide HBC).size)); clear hb)
    | (go_at_call 11; refine ((unhide HQ).kids _ (unhide HBC)).mono ?_; rintro e w4 ⟨ka, kc, rfl, hi, hb⟩; have HI := hide hi; clear hi; have HBC := hide ((unhide HBC).trans (hb.mono (unhide HBC).size)); clear hb)
    | (go_at_call 49; refine ((unhide HQ).cnt _ _ _ (unhide HBC) (unhide HI)).mono ?_; rw [unhide HC]; rintro e w5 ⟨rfl, hb⟩; have HBC := hide ((unhide HBC).trans (hb.mono (unhide HBC).size)); clear hb))
  go_ret2
  exact ⟨rfl, unhide HBC⟩

set_option maxHeartbeats 2000000 in
theorem ae_full0 {w0 : World} {base : Nat} {F : Nat → Prop} {os1 : List OneM} (hQ : AskN w bA os q) (s : ByteArray) (hg : ∀ W, Calls Tryz.prog 48 #[.string s] W fun e w' => e = .returned (.bool true) ∧ Below W.heap.size W w') (hp : parentM (kindO os q) = true) (h0 : q = 0) (hc : cntO os (kidsO os 0) [1] = 0) (h100 : s.size ≤ 100)
    (hE : ∀ W, Below w.heap.size w W → Calls Tryz.prog 50 #[.pointer (some ⟨bA, 0, none⟩), .int .i64 0, .string ⟨(s.data.toList.map lowB).toArray⟩, .slice none 0 0] W fun e w6 => e = .returned (.tuple #[.int .i64 0, .int .i64 9]) ∧ USim F w0 w6 base bA os1) :
    Calls Tryz.prog 18 #[.pointer (some ⟨bA, 0, none⟩), .string s, .int .i64 q] w fun e w' => e = .returned (.tuple #[.int .i64 0, .int .i64 9]) ∧ USim F w0 w' base bA os1 := by
  have HQ := hide hQ
  have HTG := hide hg
  have HPAR := hide hp
  have HEL := hide hE
  have H100 := hide h100
  have HC := hide hc
  subst h0
  clear hQ hg hp hE h100 hc
  go_enter Tryz.func18, Tryz.ntmps18
  set_option maxRecDepth 10000 in
  go_wp2_with (first
    | (go_at_call 45; refine (unhide HQ).find.mono ?_; rintro e w1 ⟨rfl, rfl⟩; have HBC := hide (show Below w.heap.size w (w.alloc (.cells #[.int .i64 ((0 : Nat) : Int)] 3)) from (Below.refl _ w).alloc (Nat.le_refl _) _))
    | (go_at_call 48; refine ((unhide HTG) _).mono ?_; rintro e w2 ⟨rfl, hb⟩; have HBC := hide ((unhide HBC).trans (hb.mono (unhide HBC).size)); clear hb)
    | (go_at_call 46; refine ((unhide HQ).par _ (unhide HBC)).mono ?_; rw [unhide HPAR]; rintro e w3 ⟨rfl, hb⟩; have HBC := hide ((unhide HBC).trans (hb.mono (unhide HBC).size)); clear hb)
    | (go_at_call 11; refine ((unhide HQ).kids _ (unhide HBC)).mono ?_; rintro e w4 ⟨ka, kc, rfl, hi, hb⟩; have HI := hide hi; clear hi; have HBC := hide ((unhide HBC).trans (hb.mono (unhide HBC).size)); clear hb)
    | (go_at_call 49; refine ((unhide HQ).cnt _ _ _ (unhide HBC) (unhide HI)).mono ?_; rw [unhide HC]; rintro e w5 ⟨rfl, hb⟩; have HBC := hide ((unhide HBC).trans (hb.mono (unhide HBC).size)); clear hb)
    | (go_at_call 51; refine (small_any s _ (unhide H100)).mono ?_; rintro e w4 ⟨rfl, hb⟩; have HBC := hide ((unhide HBC).trans (hb.mono (unhide HBC).size)); clear hb)
    | (go_at_call 50; refine ((unhide HEL) _ (unhide HBC)).mono ?_; rintro e w6 ⟨rfl, H6'⟩; have H6 := hide H6'; clear H6'))
  go_ret2
  exact ⟨rfl, unhide H6⟩

set_option maxHeartbeats 2000000 in
theorem ae_ok0 {w0 : World} {base : Nat} {F : Nat → Prop} {os1 : List OneM} (hQ : AskN w bA os q) (s : ByteArray) (hg : ∀ W, Calls Tryz.prog 48 #[.string s] W fun e w' => e = .returned (.bool true) ∧ Below W.heap.size W w') (hp : parentM (kindO os q) = true) (h0 : q = 0) (hc : cntO os (kidsO os 0) [1] = 0) (h100 : s.size ≤ 100) (n : Int)
    (hE : ∀ W, Below w.heap.size w W → Calls Tryz.prog 50 #[.pointer (some ⟨bA, 0, none⟩), .int .i64 0, .string ⟨(s.data.toList.map lowB).toArray⟩, .slice none 0 0] W fun e w6 => e = .returned (.tuple #[.int .i64 n, .int .i64 0]) ∧ Calls Tryz.prog 44 #[.pointer (some ⟨bA, 0, none⟩), .int .i64 q, .int .i64 n, .int .i64 (-1)] w6 fun e w' => e = .returned (.int .i64 0) ∧ USim F w0 w' base bA os1) :
    Calls Tryz.prog 18 #[.pointer (some ⟨bA, 0, none⟩), .string s, .int .i64 q] w fun e w' => e = .returned (.tuple #[.int .i64 n, .int .i64 0]) ∧ USim F w0 w' base bA os1 := by
  have HQ := hide hQ
  have HTG := hide hg
  have HPAR := hide hp
  have HEL := hide hE
  have H100 := hide h100
  have HC := hide hc
  subst h0
  clear hQ hg hp hE h100 hc
  go_enter Tryz.func18, Tryz.ntmps18
  set_option maxRecDepth 10000 in
  go_wp2_with (first
    | (go_at_call 45; refine (unhide HQ).find.mono ?_; rintro e w1 ⟨rfl, rfl⟩; have HBC := hide (show Below w.heap.size w (w.alloc (.cells #[.int .i64 ((0 : Nat) : Int)] 3)) from (Below.refl _ w).alloc (Nat.le_refl _) _))
    | (go_at_call 48; refine ((unhide HTG) _).mono ?_; rintro e w2 ⟨rfl, hb⟩; have HBC := hide ((unhide HBC).trans (hb.mono (unhide HBC).size)); clear hb)
    | (go_at_call 46; refine ((unhide HQ).par _ (unhide HBC)).mono ?_; rw [unhide HPAR]; rintro e w3 ⟨rfl, hb⟩; have HBC := hide ((unhide HBC).trans (hb.mono (unhide HBC).size)); clear hb)
    | (go_at_call 11; refine ((unhide HQ).kids _ (unhide HBC)).mono ?_; rintro e w4 ⟨ka, kc, rfl, hi, hb⟩; have HI := hide hi; clear hi; have HBC := hide ((unhide HBC).trans (hb.mono (unhide HBC).size)); clear hb)
    | (go_at_call 49; refine ((unhide HQ).cnt _ _ _ (unhide HBC) (unhide HI)).mono ?_; rw [unhide HC]; rintro e w5 ⟨rfl, hb⟩; have HBC := hide ((unhide HBC).trans (hb.mono (unhide HBC).size)); clear hb)
    | (go_at_call 51; refine (small_any s _ (unhide H100)).mono ?_; rintro e w4 ⟨rfl, hb⟩; have HBC := hide ((unhide HBC).trans (hb.mono (unhide HBC).size)); clear hb)
    | (go_at_call 50; refine ((unhide HEL) _ (unhide HBC)).mono ?_; rintro e w6 ⟨rfl, H6'⟩; have H6 := hide H6'; clear H6')
    | (go_at_call 44; refine (unhide H6).mono ?_; rintro e w7 ⟨rfl, hu7⟩; have HU7 := hide hu7; clear hu7))
  go_ret2
  exact ⟨rfl, unhide HU7⟩

set_option maxHeartbeats 2000000 in
theorem ae_full1 {w0 : World} {base : Nat} {F : Nat → Prop} {os1 : List OneM} (hQ : AskN w bA os q) (s : ByteArray) (hg : ∀ W, Calls Tryz.prog 48 #[.string s] W fun e w' => e = .returned (.bool true) ∧ Below W.heap.size W w') (hp : parentM (kindO os q) = true) (h0 : q ≠ 0) (h100 : s.size ≤ 100)
    (hE : ∀ W, Below w.heap.size w W → Calls Tryz.prog 50 #[.pointer (some ⟨bA, 0, none⟩), .int .i64 0, .string ⟨(s.data.toList.map lowB).toArray⟩, .slice none 0 0] W fun e w6 => e = .returned (.tuple #[.int .i64 0, .int .i64 9]) ∧ USim F w0 w6 base bA os1) :
    Calls Tryz.prog 18 #[.pointer (some ⟨bA, 0, none⟩), .string s, .int .i64 q] w fun e w' => e = .returned (.tuple #[.int .i64 0, .int .i64 9]) ∧ USim F w0 w' base bA os1 := by
  have HQ := hide hQ
  have HTG := hide hg
  have HPAR := hide hp
  have HEL := hide hE
  have H100 := hide h100
  have z1 : ((q : Int) == 0) = false := by simpa using h0
  have z2 : ¬ (q : Int) = 0 := by omega
  clear hQ hg hp hE h100
  go_enter Tryz.func18, Tryz.ntmps18
  set_option maxRecDepth 10000 in
  go_wp2_with (first
    | (go_at_call 45; refine (unhide HQ).find.mono ?_; rintro e w1 ⟨rfl, rfl⟩; have HBC := hide (show Below w.heap.size w (w.alloc (.cells #[.int .i64 (q : Int)] 3)) from (Below.refl _ w).alloc (Nat.le_refl _) _))
    | (go_at_call 48; refine ((unhide HTG) _).mono ?_; rintro e w2 ⟨rfl, hb⟩; have HBC := hide ((unhide HBC).trans (hb.mono (unhide HBC).size)); clear hb)
    | (go_at_call 46; refine ((unhide HQ).par _ (unhide HBC)).mono ?_; rw [unhide HPAR]; rintro e w3 ⟨rfl, hb⟩; have HBC := hide ((unhide HBC).trans (hb.mono (unhide HBC).size)); clear hb)
    | (go_at_call 51; refine (small_any s _ (unhide H100)).mono ?_; rintro e w4 ⟨rfl, hb⟩; have HBC := hide ((unhide HBC).trans (hb.mono (unhide HBC).size)); clear hb)
    | (go_at_call 50; refine ((unhide HEL) _ (unhide HBC)).mono ?_; rintro e w6 ⟨rfl, H6'⟩; have H6 := hide H6'; clear H6'))
  go_ret2
  exact ⟨rfl, unhide H6⟩

set_option maxHeartbeats 2000000 in
theorem ae_ok1 {w0 : World} {base : Nat} {F : Nat → Prop} {os1 : List OneM} (hQ : AskN w bA os q) (s : ByteArray) (hg : ∀ W, Calls Tryz.prog 48 #[.string s] W fun e w' => e = .returned (.bool true) ∧ Below W.heap.size W w') (hp : parentM (kindO os q) = true) (h0 : q ≠ 0) (h100 : s.size ≤ 100) (n : Int)
    (hE : ∀ W, Below w.heap.size w W → Calls Tryz.prog 50 #[.pointer (some ⟨bA, 0, none⟩), .int .i64 0, .string ⟨(s.data.toList.map lowB).toArray⟩, .slice none 0 0] W fun e w6 => e = .returned (.tuple #[.int .i64 n, .int .i64 0]) ∧ Calls Tryz.prog 44 #[.pointer (some ⟨bA, 0, none⟩), .int .i64 q, .int .i64 n, .int .i64 (-1)] w6 fun e w' => e = .returned (.int .i64 0) ∧ USim F w0 w' base bA os1) :
    Calls Tryz.prog 18 #[.pointer (some ⟨bA, 0, none⟩), .string s, .int .i64 q] w fun e w' => e = .returned (.tuple #[.int .i64 n, .int .i64 0]) ∧ USim F w0 w' base bA os1 := by
  have HQ := hide hQ
  have HTG := hide hg
  have HPAR := hide hp
  have HEL := hide hE
  have H100 := hide h100
  have z1 : ((q : Int) == 0) = false := by simpa using h0
  have z2 : ¬ (q : Int) = 0 := by omega
  clear hQ hg hp hE h100
  go_enter Tryz.func18, Tryz.ntmps18
  set_option maxRecDepth 10000 in
  go_wp2_with (first
    | (go_at_call 45; refine (unhide HQ).find.mono ?_; rintro e w1 ⟨rfl, rfl⟩; have HBC := hide (show Below w.heap.size w (w.alloc (.cells #[.int .i64 (q : Int)] 3)) from (Below.refl _ w).alloc (Nat.le_refl _) _))
    | (go_at_call 48; refine ((unhide HTG) _).mono ?_; rintro e w2 ⟨rfl, hb⟩; have HBC := hide ((unhide HBC).trans (hb.mono (unhide HBC).size)); clear hb)
    | (go_at_call 46; refine ((unhide HQ).par _ (unhide HBC)).mono ?_; rw [unhide HPAR]; rintro e w3 ⟨rfl, hb⟩; have HBC := hide ((unhide HBC).trans (hb.mono (unhide HBC).size)); clear hb)
    | (go_at_call 51; refine (small_any s _ (unhide H100)).mono ?_; rintro e w4 ⟨rfl, hb⟩; have HBC := hide ((unhide HBC).trans (hb.mono (unhide HBC).size)); clear hb)
    | (go_at_call 50; refine ((unhide HEL) _ (unhide HBC)).mono ?_; rintro e w6 ⟨rfl, H6'⟩; have H6 := hide H6'; clear H6')
    | (go_at_call 44; refine (unhide H6).mono ?_; rintro e w7 ⟨rfl, hu7⟩; have HU7 := hide hu7; clear hu7))
  go_ret2
  exact ⟨rfl, unhide HU7⟩
end
end Go.Proofs.YtnclnijlpchdnaaGreat

namespace Go.Proofs.YtnclnijlpchdnaaGreat
open Go.RowKit

section
variable {w : World} {base bA : Nat} {ns : List NodeM} {os : List OneM} {F : Nat → Prop}

theorem none1 (h : ArS w base bA ns F) (hs : Sim ns os) (p : Int) (hno : hasO os p = false) :
    Calls Tryz.prog 45 #[.pointer (some ⟨bA, 0, none⟩), .slice (some ⟨w.heap.size, 0, none⟩) 1 1] (w.alloc (.cells #[.int .i64 p] 3)) fun e w' => e = .returned (.int .i64 6) ∧ w' = w.alloc (.cells #[.int .i64 p] 3) := by
  have hb : Below w.heap.size w (w.alloc (.cells #[.int .i64 p] 3)) := (Below.refl _ w).alloc (Nat.le_refl _) _
  have hf := find1 (h.below hb) hs p w.heap.size 1 (by simp)
  rw [hno] at hf
  exact hf

theorem at_none (h : ArS w base bA ns F) (hs : Sim ns os) (s : ByteArray) (p : Int) (hno : hasO os p = false) :
    Calls Tryz.prog 17 #[.pointer (some ⟨bA, 0, none⟩), .string s, .int .i64 p] w fun e w' => e = .returned (.tuple #[.int .i64 0, .int .i64 6]) ∧ Below w.heap.size w w' := by
  have HF := hide (none1 h hs p hno)
  clear h hs hno
  go_enter Tryz.func17, Tryz.ntmps17
  go_wp2_with (first | (go_at_call 45; refine (unhide HF).mono ?_; rintro e w1 ⟨rfl, rfl⟩))
  go_ret2
  exact ⟨rfl, (Below.refl _ _).alloc (Nat.le_refl _) _⟩
theorem ae_none (h : ArS w base bA ns F) (hs : Sim ns os) (s : ByteArray) (p : Int) (hno : hasO os p = false) :
    Calls Tryz.prog 18 #[.pointer (some ⟨bA, 0, none⟩), .string s, .int .i64 p] w fun e w' => e = .returned (.tuple #[.int .i64 0, .int .i64 6]) ∧ Below w.heap.size w w' := by
  have HF := hide (none1 h hs p hno)
  clear h hs hno
  go_enter Tryz.func18, Tryz.ntmps18
  go_wp2_with (first | (go_at_call 45; refine (unhide HF).mono ?_; rintro e w1 ⟨rfl, rfl⟩))
  go_ret2
  exact ⟨rfl, (Below.refl _ _).alloc (Nat.le_refl _) _⟩
theorem an_none (h : ArS w base bA ns F) (hs : Sim ns os) (s : ByteArray) (p : Int) (hno : hasO os p = false) :
    Calls Tryz.prog 52 #[.pointer (some ⟨bA, 0, none⟩), .int .i64 p, .string s] w fun e w' => e = .returned (.tuple #[.string ⟨#[]⟩, .int .i64 6]) ∧ Below w.heap.size w w' := by
  have HF := hide (none1 h hs p hno)
  clear h hs hno
  go_enter Tryz.func52, Tryz.ntmps52
  go_wp2_with (first | (go_at_call 45; refine (unhide HF).mono ?_; rintro e w1 ⟨rfl, rfl⟩))
  go_ret2
  exact ⟨rfl, (Below.refl _ _).alloc (Nat.le_refl _) _⟩

theorem addText_any (h : ArS w base bA ns F) (hs : Sim ns os) (s : ByteArray) (p : Int) :
    Calls Tryz.prog 17 #[.pointer (some ⟨bA, 0, none⟩), .string s, .int .i64 p] w fun e w' => e = .returned (.tuple #[.int .i64 (addTextO os s p).2.1, .int .i64 (addTextO os s p).2.2]) ∧ USim F w w' base bA (addTextO os s p).1 := by
  unfold addTextO
  cases hno : hasO os p with
  | false => rw [if_pos rfl]; exact (at_none h hs s p hno).mono fun e w' ⟨h1, h2⟩ => ⟨h1, usim_of h hs h2⟩
  | true =>
    rw [if_neg (by simp)]
    obtain ⟨q, oq, rfl, hoq⟩ := hasO_yes hno
    have hlt := (List.getElem?_eq_some_iff.1 hoq).1
    have hQ := askN h hs q hlt
    cases hl : longS s with
    | true =>
      rw [if_pos rfl]
      exact (at_long hQ s (by have := of_decide_eq_true hl; omega)).mono fun e w' ⟨h1, h2⟩ => ⟨h1, usim_of h hs h2⟩
    | false =>
      rw [if_neg (by simp)]
      have hl' : ¬ (1048576 : Int) < (s.size : Int) := by have := of_decide_eq_false hl; omega
      by_cases hf : 32768 ≤ os.length
      · rw [if_pos hf]
        exact (at_full hQ s _ rfl hl' (by omega)).mono fun e w' ⟨h1, h2⟩ => ⟨h1, usim_of h hs h2⟩
      · rw [if_neg hf]
        by_cases h0 : q = 0
        · rw [if_pos (.inl (by omega))]
          exact (at_doc hQ s _ rfl hl' (by omega) h0).mono fun e w' ⟨h1, h2⟩ => ⟨h1, usim_of h hs h2⟩
        · cases hp : parentM (kindO os q) with
          | false =>
            rw [if_pos (.inr rfl)]
            exact (at_par hQ s _ rfl hl' (by omega) h0 hp).mono fun e w' ⟨h1, h2⟩ => ⟨h1, usim_of h hs h2⟩
          | true =>
            rw [if_neg (by simp; omega)]
            rw [kindO_of hoq] at hp
            refine at_ok hQ s (os.length : Int) rfl hl' (by omega) h0 (by rw [kindO_of hoq]; exact hp) (fun W hW => ?_)
            have hel := text_sim (h.below hW) hs s
            rw [show dataO os 2 s = (os ++ [dataQ 2 s], (os.length : Int), 0) by unfold dataO addO; rw [hl, if_neg (by simp), if_pos (by omega)]] at hel
            refine hel.mono fun e w6 ⟨he, ms, ⟨F1, h1, h2, h3⟩, h4⟩ => ⟨he, ?_⟩
            exact linked (os := os) (q := dataQ 2 s) (F := F) (w := w) ⟨ms, F1, h1, (Mod.of_below hW).trans h2, fun k hk => (h3 k hk).imp id (fun e => Nat.le_trans hW.size e), h4⟩ hoq hp rfl rfl rfl (by simp [dataQ, oneM]) (by simp [dataQ, oneM])

theorem elemO_cases (s : ByteArray) (h100 : s.size ≤ 100) : ((elemO os 0 s []).2.2 = 0 ∧ (elemO os 0 s []).2.1 = (os.length : Int) ∧ ∃ ext q, (elemO os 0 s []).1 = os ++ ext ∧ ext[0]? = some q ∧ q.up = -1 ∧ q.kind = 1) ∨ elemO os 0 s [] = (os, 0, 9) := by
  have hl : longS s = false := by unfold longS; simp; omega
  unfold elemO longE addO
  rw [if_neg (by omega)]
  simp only [hl, List.length_nil, List.any_nil, Bool.or_false, Bool.false_or]
  rw [if_neg (by simp)]
  by_cases ht : isT s = true
  · rw [if_pos (by simp [ht])]
    by_cases hr : os.length + 2 ≤ 32768
    · rw [if_pos hr]; exact .inl ⟨rfl, rfl, _, _, rfl, rfl, rfl, rfl⟩
    · rw [if_neg hr]; exact .inr rfl
  · rw [if_neg (by simp [ht])]
    by_cases hr : os.length + 1 ≤ 32768
    · rw [if_pos hr]; exact .inl ⟨rfl, rfl, _, _, rfl, rfl, rfl, rfl⟩
    · rw [if_neg hr]; exact .inr rfl

theorem addElem_any (h : ArS w base bA ns F) (hs : Sim ns os) (s : ByteArray) (hm : s.size ≤ maxLen) (p : Int) :
    Calls Tryz.prog 18 #[.pointer (some ⟨bA, 0, none⟩), .string s, .int .i64 p] w fun e w' => e = .returned (.tuple #[.int .i64 (addElemO os s p).2.1, .int .i64 (addElemO os s p).2.2]) ∧ USim F w w' base bA (addElemO os s p).1 := by
  unfold addElemO
  cases hno : hasO os p with
  | false => rw [if_pos rfl]; exact (ae_none h hs s p hno).mono fun e w' ⟨h1, h2⟩ => ⟨h1, usim_of h hs h2⟩
  | true =>
    rw [if_neg (by simp)]
    obtain ⟨q, oq, rfl, hoq⟩ := hasO_yes hno
    have hlt := (List.getElem?_eq_some_iff.1 hoq).1
    have hQ := askN h hs q hlt
    have hg : ∀ W, Calls Tryz.prog 48 #[.string s] W fun e w' => e = .returned (.bool (tagM s)) ∧ Below W.heap.size W w' := fun W => elemName_any s W hm
    cases ht : tagM s with
    | false =>
      rw [if_pos rfl]
      rw [ht] at hg
      exact (ae_tag hQ s hg).mono fun e w' ⟨h1, h2⟩ => ⟨h1, usim_of h hs h2⟩
    | true =>
      rw [if_neg (by simp)]
      rw [ht] at hg
      have h100 : s.size ≤ 100 := by
        unfold tagM at ht
        rw [Bool.and_eq_true] at ht
        exact (nameM_size ht.1).2
      cases hp : parentM (kindO os q) with
      | false =>
        rw [if_pos (.inl rfl)]
        exact (ae_par hQ s hg hp).mono fun e w' ⟨h1, h2⟩ => ⟨h1, usim_of h hs h2⟩
      | true =>
        by_cases htwo : q = 0 ∧ 0 < cntO os (kidsO os 0) [1]
        · rw [if_pos (.inr ⟨by omega, htwo.2⟩)]
          exact (ae_two hQ s hg hp htwo.1 _ rfl htwo.2).mono fun e w' ⟨h1, h2⟩ => ⟨h1, usim_of h hs h2⟩
        · rw [if_neg (by rintro (e | ⟨e1, e2⟩); cases e; exact htwo ⟨by omega, e2⟩)]
          have hE : ∀ W, Below w.heap.size w W → Calls Tryz.prog 50 #[.pointer (some ⟨bA, 0, none⟩), .int .i64 0, .string ⟨(s.data.toList.map lowB).toArray⟩, .slice none 0 0] W fun e w6 => e = .returned (.tuple #[.int .i64 (elemO os 0 (lowS s) []).2.1, .int .i64 (elemO os 0 (lowS s) []).2.2]) ∧ USim F w w6 base bA (elemO os 0 (lowS s) []).1 := fun W hW =>
            (element_sim (h.below hW) hs 0 (lowS s) none 0 [] ⟨fun i x hi => by simp at hi⟩ (by simp)).mono fun e w6 ⟨h1, h2⟩ => ⟨h1, h2.after hW⟩
          rcases elemO_cases (os := os) (lowS s) (by rw [lowS_size]; exact h100) with ⟨e1, e2, ext, x, e3, e4, e5, e6⟩ | e
          · rw [if_neg (by simp [e1])]
            rw [e1, e2, e3] at hE
            rw [e2, e3]
            rw [kindO_of hoq] at hp
            have hE' : ∀ W, Below w.heap.size w W → Calls Tryz.prog 50 #[.pointer (some ⟨bA, 0, none⟩), .int .i64 0, .string ⟨(s.data.toList.map lowB).toArray⟩, .slice none 0 0] W fun e w6 => e = .returned (.tuple #[.int .i64 os.length, .int .i64 0]) ∧ Calls Tryz.prog 44 #[.pointer (some ⟨bA, 0, none⟩), .int .i64 q, .int .i64 os.length, .int .i64 (-1)] w6 fun e w' => e = .returned (.int .i64 0) ∧ USim F w w' base bA (linkR (os ++ ext) q os.length (-1)) := fun W hW =>
              (hE W hW).mono fun e w6 ⟨h1, h2⟩ => ⟨h1, (h2.link q os.length (-1)).mono fun e w' ⟨k1, k2⟩ => ⟨by rw [k1, link_ext hs e4 hoq hp e5 e6], k2⟩⟩
            by_cases h0 : q = 0
            · exact ae_ok0 hQ s hg (by rw [kindO_of hoq]; exact hp) h0 (by have : ¬ 0 < cntO os (kidsO os 0) [1] := fun e => htwo ⟨h0, e⟩; omega) h100 _ hE'
            · exact ae_ok1 hQ s hg (by rw [kindO_of hoq]; exact hp) h0 h100 _ hE'
          · rw [if_pos (by rw [e]; simp)]
            rw [e] at hE
            by_cases h0 : q = 0
            · exact ae_full0 hQ s hg hp h0 (by have : ¬ 0 < cntO os (kidsO os 0) [1] := fun e => htwo ⟨h0, e⟩; omega) h100 hE
            · exact ae_full1 hQ s hg hp h0 h100 hE

theorem attrName_any (h : ArS w base bA ns F) (hs : Sim ns os) (id : Int) (s : ByteArray) (hm : s.size ≤ maxLen) :
    Calls Tryz.prog 52 #[.pointer (some ⟨bA, 0, none⟩), .int .i64 id, .string s] w fun e w' => e = .returned (.tuple #[.string (if attrNE os id s = 0 then attrN os id s else ⟨#[]⟩), .int .i64 (attrNE os id s)]) ∧ Below w.heap.size w w' := by
  unfold attrNE
  cases hno : hasO os id with
  | false => exact an_none h hs s id hno
  | true =>
    obtain ⟨q, oq, rfl, hoq⟩ := hasO_yes hno
    have hQ := askN h hs q (List.getElem?_eq_some_iff.1 hoq).1
    by_cases hk : kindO os q = 1
    · cases hn : nameM s with
      | false =>
        have := an_name hQ s hm hk hn
        simpa [hk] using this
      | true =>
        unfold attrN
        by_cases h0 : spaceO os q = 0
        · have := an_html hQ s hm hk hn h0
          simpa [hk, h0] using this
        · have := an_else hQ s hm hk hn _ rfl h0
          simpa [hk, h0] using this
    · have := an_kind hQ s _ rfl hk
      simpa [hk] using this

set_option maxHeartbeats 1000000 in
theorem edSet_any (h : ArS w base bA ns F) (hs : Sim ns os) (id : Int) (s v : ByteArray) (hm : s.size ≤ maxLen) :
    Calls Tryz.prog 19 #[.pointer (some ⟨bA, 0, none⟩), .int .i64 id, .string s, .string v] w fun e w' => e = .returned (.int .i64 (edSetE os id s v)) ∧ USim F w w' base bA (edSetR os id s v) := by
  have hN := attrName_any h hs id s hm
  unfold edSetE edSetR
  by_cases he : attrNE os id s = 0
  · rw [if_neg (by simp [he]), if_neg (by simp [he])]
    rw [he, if_pos rfl] at hN
    have HN := hide hN
    have HS : Hid (∀ W, Below w.heap.size w W → Calls Tryz.prog 53 #[.pointer (some ⟨bA, 0, none⟩), .int .i64 id, .agg #[.int .i64 0, .string ⟨#[]⟩, .string (attrN os id s), .string v]] W fun e w' => e = .returned (.int .i64 (setAttrE os id (setX os id s v))) ∧ USim F w w' base bA (setAttrR os id (setX os id s v))) :=
      hide (fun W hW => (setAttr_sim (h.below hW) hs id (setX os id s v)).mono fun e w' ⟨h1, h2⟩ => ⟨h1, h2.after hW⟩)
    generalize setAttrE os id (setX os id s v) = ev at HS ⊢
    generalize setAttrR os id (setX os id s v) = ov at HS ⊢
    generalize attrN os id s = nm at HN HS
    clear h hs hN he hm
    go_enter Tryz.func19, Tryz.ntmps19
    go_wp2_with (first
      | (go_at_call 52; refine (unhide HN).mono ?_; rintro e w1 ⟨rfl, hb⟩; have HB := hide hb; clear hb)
      | (go_at_call 53; refine ((unhide HS) _ (unhide HB)).mono ?_; rintro e w2 ⟨rfl, hu⟩; have HU := hide hu; clear hu))
    go_ret
    exact ⟨rfl, unhide HU⟩
  · rw [if_pos he, if_pos he]
    rw [if_neg he] at hN
    have HN := hide hN
    have HU : Hid (∀ W, Below w.heap.size w W → USim F w W base bA os) := hide (fun W hW => usim_of h hs hW)
    generalize attrNE os id s = ev at HN he ⊢
    have hz : (ev != 0) = true := by simpa using he
    clear h hs hN hm
    go_enter Tryz.func19, Tryz.ntmps19
    go_wp2_with (first
      | (go_at_call 52; refine (unhide HN).mono ?_; rintro e w1 ⟨rfl, hb⟩; have HB := hide hb; clear hb))
    go_ret
    exact ⟨rfl, (unhide HU) _ (unhide HB)⟩

set_option maxHeartbeats 1000000 in
theorem edDel_any (h : ArS w base bA ns F) (hs : Sim ns os) (id : Int) (s : ByteArray) (hm : s.size ≤ maxLen) :
    Calls Tryz.prog 20 #[.pointer (some ⟨bA, 0, none⟩), .int .i64 id, .string s] w fun e w' => e = .returned (.int .i64 (edDelE os id s)) ∧ USim F w w' base bA (edDelR os id s) := by
  have hN := attrName_any h hs id s hm
  unfold edDelE edDelR
  by_cases he : attrNE os id s = 0
  · rw [if_neg (by simp [he]), if_neg (by simp [he])]
    rw [he, if_pos rfl] at hN
    have HN := hide hN
    have HS : Hid (∀ W, Below w.heap.size w W → Calls Tryz.prog 54 #[.pointer (some ⟨bA, 0, none⟩), .int .i64 id, .int .i64 0, .string (attrN os id s)] W fun e w' => e = .returned (.int .i64 (delAttrE os id 0 (attrN os id s))) ∧ USim F w w' base bA (delAttrR os id 0 (attrN os id s))) :=
      hide (fun W hW => (delAttr_sim (h.below hW) hs id 0 (attrN os id s)).mono fun e w' ⟨h1, h2⟩ => ⟨h1, h2.after hW⟩)
    generalize delAttrE os id 0 (attrN os id s) = ev at HS ⊢
    generalize delAttrR os id 0 (attrN os id s) = ov at HS ⊢
    generalize attrN os id s = nm at HN HS
    clear h hs hN he hm
    go_enter Tryz.func20, Tryz.ntmps20
    go_wp2_with (first
      | (go_at_call 52; refine (unhide HN).mono ?_; rintro e w1 ⟨rfl, hb⟩; have HB := hide hb; clear hb)
      | (go_at_call 54; refine ((unhide HS) _ (unhide HB)).mono ?_; rintro e w2 ⟨rfl, hu⟩; have HU := hide hu; clear hu))
    go_ret
    exact ⟨rfl, unhide HU⟩
  · rw [if_pos he, if_pos he]
    rw [if_neg he] at hN
    have HN := hide hN
    have HU : Hid (∀ W, Below w.heap.size w W → USim F w W base bA os) := hide (fun W hW => usim_of h hs hW)
    generalize attrNE os id s = ev at HN he ⊢
    have hz : (ev != 0) = true := by simpa using he
    clear h hs hN hm
    go_enter Tryz.func20, Tryz.ntmps20
    go_wp2_with (first
      | (go_at_call 52; refine (unhide HN).mono ?_; rintro e w1 ⟨rfl, hb⟩; have HB := hide hb; clear hb))
    go_ret
    exact ⟨rfl, (unhide HU) _ (unhide HB)⟩
end
end Go.Proofs.YtnclnijlpchdnaaGreat
