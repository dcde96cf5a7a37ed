/-
  Doctypes, fragments and comments are made, in both arenas.
-/
import Derived.Test.YtfcagiacjpcpeaaJB
import Derived.Test.YtfcagiacjpcpeaaRf9
import Derived.Test.YtfcagiacjpcpeaaFull
namespace Go.Proofs.Ytfcagiacjpcpeaa
open Go.RowKit

set_option maxHeartbeats 1000000 in
theorem fragment_fits {w : World} {base bA : Nat} {ns : List NodeM} {F : Nat → Prop} (h : ArS w base bA ns F) (hf : ns.length + 1 ≤ 32768) :
    Calls Try.prog 31 #[.pointer (some ⟨bA, 0, none⟩)] w fun e w' => e = .returned (.tuple #[.int .i64 ns.length, .int .i64 0]) ∧ Upd F w w' base bA (ns ++ [blankM 5]) := by
  obtain ⟨bS, g, cap, h, hF⟩ := h
  have HF := hide hF
  have HM := hide (made_yes h)
  have HH := hide h
  clear h hF
  go_enter Try.func31, Try.ntmps31
  go_wp2_with (first
    | (go_at_call 42; refine (unhide HM).mono ?_; rintro e w' ⟨rfl, rfl⟩)
    | (go_at_call 41; refine (blank_any _).mono ?_; rintro e w' ⟨rfl, rfl⟩))
  refine (add_fits1 (n := blankM 5) (((unhide HH).alloc _).alloc _) (news_bare (((unhide HH).alloc _).alloc _) _ (by simp [blankM])) hf _ _ (last_block _ _ _ (by simp))).mono ?_
  rintro e w' ⟨rfl, g', cap', har, hmod, hgg⟩
  go_wp2
  go_ret2
  exact ⟨rfl, upd_add (unhide HF) (((Below.refl _ w).alloc (Nat.le_refl _) _).alloc (by simp) _) har hmod hgg (by simp [blankM, Value.ownBlock])⟩

set_option maxHeartbeats 1000000 in
theorem fragment_full {w : World} {base bA : Nat} {ns : List NodeM} {F : Nat → Prop} (h : ArS w base bA ns F) (hf : ¬ ns.length + 1 ≤ 32768) :
    Calls Try.prog 31 #[.pointer (some ⟨bA, 0, none⟩)] w fun e w' => e = .returned (.tuple #[.int .i64 0, .int .i64 9]) ∧ Below w.heap.size w w' := by
  obtain ⟨bS, g, cap, h, hF⟩ := h
  have HM := hide (made_yes h)
  have HH := hide h
  clear h hF
  go_enter Try.func31, Try.ntmps31
  go_wp2_with (first
    | (go_at_call 42; refine (unhide HM).mono ?_; rintro e w' ⟨rfl, rfl⟩)
    | (go_at_call 41; refine (blank_any _).mono ?_; rintro e w' ⟨rfl, rfl⟩))
  refine (add_full (((unhide HH).alloc _).alloc _) _ _ 1 (by omega) hf).mono ?_
  rintro e w' ⟨rfl, rfl⟩
  go_wp2
  go_ret2
  exact ⟨rfl, (((Below.refl _ w).alloc (Nat.le_refl _) _).alloc (by simp) _)⟩

def docN (name pub sys : ByteArray) : NodeM := { blankM 4 with name := name, data := pub, system := sys }

set_option maxHeartbeats 1000000 in
theorem doctype_long {w : World} {base bA : Nat} {ns : List NodeM} {F : Nat → Prop} (h : ArS w base bA ns F) (n p s : ByteArray) (hs : (longS n || longS p || longS s) = true) :
    Calls Try.prog 29 #[.pointer (some ⟨bA, 0, none⟩), .string n, .string p, .string s] w fun e w' => e = .returned (.tuple #[.int .i64 0, .int .i64 2]) ∧ Below w.heap.size w w' := by
  obtain ⟨bS, g, cap, h, hF⟩ := h
  have HM := hide (made_yes h)
  have HL := hide (anyLong_any (w.alloc (.cells #[.string n, .string p, .string s] 9)) w.heap.size 3 [n, p, s] (threeS w 9 n p s) (by simp))
  have hlong : [n, p, s].any longS = true := by simpa [or_assoc] using hs
  rw [hlong] at HL
  clear h hF hlong
  go_enter Try.func29, Try.ntmps29
  go_wp2_with (first
    | (go_at_call 42; refine (unhide HM).mono ?_; rintro e w' ⟨rfl, rfl⟩)
    | (go_at_call 43; refine (unhide HL).mono ?_; rintro e w' ⟨rfl, rfl⟩))
  go_ret2
  exact ⟨rfl, (Below.refl _ w).alloc (Nat.le_refl _) _⟩

set_option maxHeartbeats 1000000 in
theorem doctype_fits {w : World} {base bA : Nat} {ns : List NodeM} {F : Nat → Prop} (h : ArS w base bA ns F) (n p s : ByteArray) (hs : (longS n || longS p || longS s) = false) (hf : ns.length + 1 ≤ 32768) :
    Calls Try.prog 29 #[.pointer (some ⟨bA, 0, none⟩), .string n, .string p, .string s] w fun e w' => e = .returned (.tuple #[.int .i64 ns.length, .int .i64 0]) ∧ Upd F w w' base bA (ns ++ [docN n p s]) := by
  obtain ⟨bS, g, cap, h, hF⟩ := h
  have HF := hide hF
  have HM := hide (made_yes h)
  have HL := hide (anyLong_any (w.alloc (.cells #[.string n, .string p, .string s] 9)) w.heap.size 3 [n, p, s] (threeS w 9 n p s) (by simp))
  have HH := hide h
  have hlong : [n, p, s].any longS = false := by simpa [and_assoc] using hs
  rw [hlong] at HL
  clear h hF hlong
  go_enter Try.func29, Try.ntmps29
  go_wp2_with (first
    | (go_at_call 42; refine (unhide HM).mono ?_; rintro e w' ⟨rfl, rfl⟩)
    | (go_at_call 43; refine (unhide HL).mono ?_; rintro e w' ⟨rfl, rfl⟩)
    | (go_at_call 41; refine (blank_any _).mono ?_; rintro e w' ⟨rfl, rfl⟩))
  refine (add_fits1 (n := docN n p s) ((((unhide HH).alloc _).alloc _).alloc _ |>.alloc _) (news_bare ((((unhide HH).alloc _).alloc _).alloc _ |>.alloc _) _ (by simp [docN, blankM])) hf _ _ (last_block _ _ _ (by simp))).mono ?_
  rintro e w' ⟨rfl, g', cap', har, hmod, hgg⟩
  go_wp2
  go_ret2
  exact ⟨rfl, upd_add (unhide HF) (((((Below.refl _ w).alloc (Nat.le_refl _) _).alloc (by simp) _).alloc (by simp; omega) _).alloc (by simp; omega) _) har hmod hgg (by simp [docN, blankM, Value.ownBlock])⟩

set_option maxHeartbeats 1000000 in
theorem doctype_full {w : World} {base bA : Nat} {ns : List NodeM} {F : Nat → Prop} (h : ArS w base bA ns F) (n p s : ByteArray) (hs : (longS n || longS p || longS s) = false) (hf : ¬ ns.length + 1 ≤ 32768) :
    Calls Try.prog 29 #[.pointer (some ⟨bA, 0, none⟩), .string n, .string p, .string s] w fun e w' => e = .returned (.tuple #[.int .i64 0, .int .i64 9]) ∧ Below w.heap.size w w' := by
  obtain ⟨bS, g, cap, h, hF⟩ := h
  have HM := hide (made_yes h)
  have HL := hide (anyLong_any (w.alloc (.cells #[.string n, .string p, .string s] 9)) w.heap.size 3 [n, p, s] (threeS w 9 n p s) (by simp))
  have HH := hide h
  have hlong : [n, p, s].any longS = false := by simpa [and_assoc] using hs
  rw [hlong] at HL
  clear h hF hlong
  go_enter Try.func29, Try.ntmps29
  go_wp2_with (first
    | (go_at_call 42; refine (unhide HM).mono ?_; rintro e w' ⟨rfl, rfl⟩)
    | (go_at_call 43; refine (unhide HL).mono ?_; rintro e w' ⟨rfl, rfl⟩)
    | (go_at_call 41; refine (blank_any _).mono ?_; rintro e w' ⟨rfl, rfl⟩))
  refine (add_full ((((unhide HH).alloc _).alloc _).alloc _ |>.alloc _) _ _ 1 (by omega) hf).mono ?_
  rintro e w' ⟨rfl, rfl⟩
  go_wp2
  go_ret2
  exact ⟨rfl, (((((Below.refl _ w).alloc (Nat.le_refl _) _).alloc (by simp) _).alloc (by simp; omega) _).alloc (by simp; omega) _)⟩

def docQ (n p s : ByteArray) : OneM := { oneM 4 with name := n, data := p, system := s }
/-- A node more, if there is room: the nodes, its number, the error. -/

def docOs (os : List OneM) (n p s : ByteArray) : List OneM × Int × Int := if longS n || longS p || longS s then (os, 0, 2) else addO os (docQ n p s)

section
variable {w : World} {base bA : Nat} {ns : List NodeM} {os : List OneM} {F : Nat → Prop}
theorem fragment_sim (ha : ArS w base bA ns F) (hs : Sim ns os) :
    Calls Try.prog 31 #[.pointer (some ⟨bA, 0, none⟩)] w fun e w' => e = .returned (.tuple #[.int .i64 (fragO os).2.1, .int .i64 (fragO os).2.2]) ∧ USim F w w' base bA (fragO os).1 := by
  unfold fragO addO
  rw [← hs.len]
  by_cases hf : ns.length + 1 ≤ 32768
  · simp only [hf, if_true]
    exact (fragment_fits ha hf).mono fun e w' ⟨h1, h2⟩ => ⟨h1, _, h2, hs.add1 _ _ ⟨rfl, rfl, rfl, rfl, rfl, rfl, rfl, rfl⟩ ⟨rfl, rfl, rfl, rfl, rfl⟩ rfl rfl rfl⟩
  · simp only [hf, if_false]
    exact (fragment_full ha hf).mono fun e w' ⟨h1, h2⟩ => ⟨h1, ns, ha.upd h2, hs⟩

theorem doctype_sim (ha : ArS w base bA ns F) (hs : Sim ns os) (n p s : ByteArray) :
    Calls Try.prog 29 #[.pointer (some ⟨bA, 0, none⟩), .string n, .string p, .string s] w fun e w' => e = .returned (.tuple #[.int .i64 (docOs os n p s).2.1, .int .i64 (docOs os n p s).2.2]) ∧ USim F w w' base bA (docOs os n p s).1 := by
  unfold docOs addO
  rw [← hs.len]
  cases hl : (longS n || longS p || longS s) with
  | true =>
    simp only [if_true]
    exact (doctype_long ha n p s hl).mono fun e w' ⟨h1, h2⟩ => ⟨h1, ns, ha.upd h2, hs⟩
  | false =>
    by_cases hf : ns.length + 1 ≤ 32768
    · simp only [hf, if_true]
      exact (doctype_fits ha n p s hl hf).mono fun e w' ⟨h1, h2⟩ => ⟨h1, _, h2, hs.add1 _ _ ⟨rfl, rfl, rfl, rfl, rfl, rfl, rfl, rfl⟩ ⟨rfl, rfl, rfl, rfl, rfl⟩ rfl rfl rfl⟩
    · simp only [hf, if_false]
      exact (doctype_full ha n p s hl hf).mono fun e w' ⟨h1, h2⟩ => ⟨h1, ns, ha.upd h2, hs⟩

end
section
variable {w : World} {base bR : Nat} {os : List OneM} {G : Nat → Prop}
set_option maxHeartbeats 1000000 in
theorem refComment_sim (h : RfS w base bR os G) (s : ByteArray) :
    Calls Try.prog 28 #[.pointer (some ⟨bR, 0, none⟩), .string s] w fun e w' => e = .returned (.tuple #[.int .i64 (dataO os 3 s).2.1, .int .i64 (dataO os 3 s).2.2]) ∧ URf G w w' base bR (dataO os 3 s).1 := by
  have hS := h
  obtain ⟨g, cap, rs, h, rfl, hG⟩ := h
  have HL := hide (refLong_any (w.alloc (.cells #[.string s] 9)) w.heap.size 1 [s] (one_cell_s w 9 s) (by simp))
  have e1 : [s].any longS = longS s := by simp
  rw [e1] at HL
  have hb : Below w.heap.size w (w.alloc (.cells #[.string s] 9)) := (Below.refl _ w).alloc (Nat.le_refl _) _
  have HC := hide (refAdd_sim (h.below hb) hG hb (bareR (dataQ 3 s)) (lists_bare _ _ _ _ _ rfl rfl rfl rfl) (dataQ 3 s) rfl (by simp [bareR, blk]))
  have HS := hide (hS.upd hb)
  unfold dataO
  generalize addO (osOf rs) (dataQ 3 s) = res at *
  clear h hG hS hb e1
  cases hl : longS s with
  | true =>
    rw [hl] at HL
    go_enter Try.func28, Try.ntmps28
    go_wp2_with (first
      | (go_at_call 50; refine (unhide HL).mono ?_; rintro e w' ⟨rfl, rfl⟩)
      | (go_at_call 51; refine (unhide HC).mono ?_; rintro e w' ⟨rfl, hu⟩))
    go_ret2
    exact ⟨rfl, unhide HS⟩
  | false =>
    rw [hl] at HL
    go_enter Try.func28, Try.ntmps28
    go_wp2_with (first
      | (go_at_call 50; refine (unhide HL).mono ?_; rintro e w' ⟨rfl, rfl⟩)
      | (go_at_call 51; refine (unhide HC).mono ?_; rintro e w' ⟨rfl, hu⟩))
    go_ret2
    exact ⟨rfl, hu⟩

set_option maxHeartbeats 1000000 in
theorem refDoctype_sim (h : RfS w base bR os G) (n p s : ByteArray) :
    Calls Try.prog 30 #[.pointer (some ⟨bR, 0, none⟩), .string n, .string p, .string s] w fun e w' => e = .returned (.tuple #[.int .i64 (docOs os n p s).2.1, .int .i64 (docOs os n p s).2.2]) ∧ URf G w w' base bR (docOs os n p s).1 := by
  have hS := h
  obtain ⟨g, cap, rs, h, rfl, hG⟩ := h
  have HL := hide (refLong_any (w.alloc (.cells #[.string n, .string p, .string s] 9)) w.heap.size 3 [n, p, s] (threeS w 9 n p s) (by simp))
  have e1 : [n, p, s].any longS = (longS n || longS p || longS s) := by simp [Bool.or_assoc]
  rw [e1] at HL
  have hb : Below w.heap.size w (w.alloc (.cells #[.string n, .string p, .string s] 9)) := (Below.refl _ w).alloc (Nat.le_refl _) _
  have HC := hide (refAdd_sim (h.below hb) hG hb (bareR (docQ n p s)) (lists_bare _ _ _ _ _ rfl rfl rfl rfl) (docQ n p s) rfl (by simp [bareR, blk]))
  have HS := hide (hS.upd hb)
  unfold docOs
  generalize addO (osOf rs) (docQ n p s) = res at *
  clear h hG hS hb e1
  cases hl : (longS n || longS p || longS s) with
  | true =>
    rw [hl] at HL
    go_enter Try.func30, Try.ntmps30
    go_wp2_with (first
      | (go_at_call 50; refine (unhide HL).mono ?_; rintro e w' ⟨rfl, rfl⟩)
      | (go_at_call 51; refine (unhide HC).mono ?_; rintro e w' ⟨rfl, hu⟩))
    go_ret2
    exact ⟨rfl, unhide HS⟩
  | false =>
    rw [hl] at HL
    go_enter Try.func30, Try.ntmps30
    go_wp2_with (first
      | (go_at_call 50; refine (unhide HL).mono ?_; rintro e w' ⟨rfl, rfl⟩)
      | (go_at_call 51; refine (unhide HC).mono ?_; rintro e w' ⟨rfl, hu⟩))
    go_ret2
    exact ⟨rfl, hu⟩

end
end Go.Proofs.Ytfcagiacjpcpeaa
