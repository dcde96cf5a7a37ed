/-
  Len of a queue.
-/
import Derived.Test.YtdfcdgjmjionbaaTe
import Derived.Deep.LoopGhost
namespace Go.Proofs.Ytdfcdgjmjionbaa
open Go.RowKit Go.Lib

def upTo (a b c d : Nat) : Nat → Nat
  | 0 => 0
  | 1 => a
  | 2 => a + b
  | 3 => a + b + c
  | _ => a + b + c + d
theorem wrap_add (x y : Int) (h0 : -1000000000000000 < x + y) (h : x + y < 1000000000000000) : IntKind.i64.wrap (x + y) = x + y := by
  simp [IntKind.wrap, IntKind.bits, IntKind.signed]
  omega
theorem wrap_fit (x : Int) (h0 : -9223372036854775808 ≤ x) (h : x ≤ 9223372036854775807) : IntKind.i64.wrap x = x := by
  simp [IntKind.wrap, IntKind.bits, IntKind.signed]
  omega
def lenQ (qs : List (List Tk)) : Nat := (qs.map List.length).sum

/-- The four lines, by name. -/
theorem QueS.open4 {w : World} {base bq : Nat} {qs : List (List Tk)} {F : Nat → Prop} (h : QueS w base bq qs F) : ∃ l0 l1 l2 l3 c0 c1 c2 c3, qs = [l0, l1, l2, l3] ∧ w.heap[bq]? = some (.cells #[chanV c0, chanV c1, chanV c2, chanV c3] 56 (0, 0)) ∧ LineIn w F c0 l0 ∧ LineIn w F c1 l1 ∧ LineIn w F c2 l2 ∧ LineIn w F c3 l3 := by
  obtain ⟨_, _, h2, cs, h3, _, h5, h6⟩ := h
  match qs, h2, cs, h3, h5, h6 with
  | [l0, l1, l2, l3], _, [c0, c1, c2, c3], _, h5, h6 => exact ⟨l0, l1, l2, l3, c0, c1, c2, c3, rfl, h5, h6 0 c0 l0 rfl rfl, h6 1 c1 l1 rfl rfl, h6 2 c2 l2 rfl rfl, h6 3 c3 l3 rfl rfl⟩
theorem LineIn.size {w : World} {F : Nat → Prop} {c : Nat} {l : List Tk} (h : LineIn w F c l) : ∀ W, Below w.heap.size w W → Calls Try.prog 29 #[lineV c] W fun e w' => e = .returned (.int .i64 l.length) ∧ Below W.heap.size W w' := by
  obtain ⟨_, _, ps, s, r, h2, h3, _⟩ := h
  intro W hb
  have := size_any c 4096 (ps.map ptrV).toArray s r W ((hb.block c (lt_of_block h2)).trans h2)
  simpa [h3] using this

theorem idx54_0 (c0 c1 c2 c3 : Nat) (W : World) : (Instr.index 54 (.agg #[.chan (some c0), .chan (some c1), .chan (some c2), .chan (some c3)]) (.int .i64 0)).run Try.prog W = .ok (.agg #[.chan (some c0)]) W := by kernel_rfl
theorem idx54_1 (c0 c1 c2 c3 : Nat) (W : World) : (Instr.index 54 (.agg #[.chan (some c0), .chan (some c1), .chan (some c2), .chan (some c3)]) (.int .i64 1)).run Try.prog W = .ok (.agg #[.chan (some c1)]) W := by kernel_rfl
theorem idx54_2 (c0 c1 c2 c3 : Nat) (W : World) : (Instr.index 54 (.agg #[.chan (some c0), .chan (some c1), .chan (some c2), .chan (some c3)]) (.int .i64 2)).run Try.prog W = .ok (.agg #[.chan (some c2)]) W := by kernel_rfl
theorem idx54_3 (c0 c1 c2 c3 : Nat) (W : World) : (Instr.index 54 (.agg #[.chan (some c0), .chan (some c1), .chan (some c2), .chan (some c3)]) (.int .i64 3)).run Try.prog W = .ok (.agg #[.chan (some c3)]) W := by kernel_rfl
set_option maxRecDepth 10000 in
theorem len_any {w : World} {base bq : Nat} {qs : List (List Tk)} {F : Nat → Prop} (h : QueS w base bq qs F) :
    Calls Try.prog 17 #[.pointer (some ⟨bq, 0, none⟩)] w fun e w' => e = .returned (.int .i64 (lenQ qs)) ∧ Below w.heap.size w w' := by
  obtain ⟨l0, l1, l2, l3, c0, c1, c2, c3, rfl, hq, h0, h1, h2, h3⟩ := h.open4
  have H0 := hide h0.size
  have H1 := hide h1.size
  have H2 := hide h2.size
  have H3 := hide h3.size
  have m0 := h0.most
  have m1 := h1.most
  have m2 := h2.most
  have m3 := h3.most
  have hsum : lenQ [l0, l1, l2, l3] = l0.length + l1.length + l2.length + l3.length := by simp [lenQ]; omega
  rw [hsum]
  clear hsum h h0 h1 h2 h3
  generalize l0.length = n0 at *
  generalize l1.length = n1 at *
  generalize l2.length = n2 at *
  generalize l3.length = n3 at *
  have M := hide (And.intro m0 (And.intro m1 (And.intro m2 m3)))
  clear m0 m1 m2 m3
  have k0 := (cell_of_row _ _ 0 _ _ _ hq).trans (by rfl : _ = some (.chan (some c0)))
  have HM := hide (made_any bq (some c0) w k0)
  have k1 := (cell_of_row _ _ 1 _ _ _ hq).trans (by rfl : _ = some (.chan (some c1)))
  have k2 := (cell_of_row _ _ 2 _ _ _ hq).trans (by rfl : _ = some (.chan (some c2)))
  have k3 := (cell_of_row _ _ 3 _ _ _ hq).trans (by rfl : _ = some (.chan (some c3)))
  have HQ := hide hq
  clear hq k0 k1 k2 k3
  unfold lineV at H0 H1 H2 H3
  go_enter Try.func17, Try.ntmps17
  go_wp2_with (go_at_call 24; go_must (refine (unhide HM).mono ?_); rintro e w1 ⟨rfl, hb⟩; have hq := (hb.block bq (lt_of_block (unhide HQ))).trans (unhide HQ); have HB := hide hb; have k0 := (cell_of_row _ _ 0 _ _ _ hq).trans (by rfl : _ = some (.chan (some c0))); have k1 := (cell_of_row _ _ 1 _ _ _ hq).trans (by rfl : _ = some (.chan (some c1))); have k2 := (cell_of_row _ _ 2 _ _ _ hq).trans (by rfl : _ = some (.chan (some c2))); have k3 := (cell_of_row _ _ 3 _ _ _ hq).trans (by rfl : _ = some (.chan (some c3))); clear hb hq)
  go_loopg [3, 13] 4 (fun k s3 s13 wx => ∃ (i m : Nat) (z y : Int), s3 = .int .i64 y ∧ s13 = .int .i64 z ∧ i + k = 4 ∧ m = upTo n0 n1 n2 n3 i ∧ z = (i : Int) ∧ y = (m : Int) ∧ Below w1.heap.size w1 wx)
  case atStart => exact ⟨0, 0, 0, 0, rfl, rfl, by omega, rfl, rfl, rfl, Below.refl _ _⟩
  case round =>
    obtain ⟨i, m, z, y, rfl, rfl, hik, hm, hz, hy, hb⟩ := hrel
    have HBX := hide ((unhide HB).trans (hb.mono (unhide HB).size))
    have HB1 := hide hb
    have hM := unhide M
    clear hb M
    rcases (by omega : i = 0 ∨ i = 1 ∨ i = 2 ∨ i = 3 ∨ i = 4) with rfl | rfl | rfl | rfl | rfl
    · simp only [upTo] at hm; subst hm
      obtain rfl : z = 0 := by omega
      obtain rfl : y = 0 := by omega
      have hw : IntKind.i64.wrap (n0 : Int) = n0 := wrap_fit _ (by omega) (by omega)
      have HY := hide hy
      have HM1 := hide hM
      clear hy hz hM
      have hx := idx54_0 c0 c1 c2 c3
      go_wp2_with (go_at_call 29; refine (unhide H0 _ ((unhide HBX).alloc (unhide HBX).size _)).mono ?_; rintro e w2 ⟨rfl, hb⟩; have HB2 := hide ((((unhide HB1).alloc (unhide HB1).size (.cells #[.chan (some c0)] 53)).trans (hb.mono (by have := (unhide HB1).size; simp; omega)))); clear hb)
      go_roundg (gk - 1)
      case measure => omega
      case rel => exact ⟨1, _, _, _, rfl, by go_num, by omega, rfl, rfl, by rfl, unhide HB2⟩
    · simp only [upTo] at hm; subst hm
      obtain rfl : z = 1 := by omega
      have hw : IntKind.i64.wrap (y + (n1 : Int)) = y + (n1 : Int) := by refine wrap_add y _ (by omega) (by omega)
      have HY := hide hy
      have HM1 := hide hM
      clear hy hz hM
      have hx := idx54_1 c0 c1 c2 c3
      go_wp2_with (go_at_call 29; refine (unhide H1 _ ((unhide HBX).alloc (unhide HBX).size _)).mono ?_; rintro e w2 ⟨rfl, hb⟩; have HB2 := hide ((((unhide HB1).alloc (unhide HB1).size (.cells #[.chan (some c1)] 53)).trans (hb.mono (by have := (unhide HB1).size; simp; omega)))); clear hb)
      go_roundg (gk - 1)
      case measure => omega
      case rel => exact ⟨2, _, _, _, rfl, by go_num, by omega, rfl, rfl, by have := unhide HY; simp only [upTo]; omega, unhide HB2⟩
    · simp only [upTo] at hm; subst hm
      obtain rfl : z = 2 := by omega
      have hw : IntKind.i64.wrap (y + (n2 : Int)) = y + (n2 : Int) := by refine wrap_add y _ (by omega) (by omega)
      have HY := hide hy
      have HM1 := hide hM
      clear hy hz hM
      have hx := idx54_2 c0 c1 c2 c3
      go_wp2_with (go_at_call 29; refine (unhide H2 _ ((unhide HBX).alloc (unhide HBX).size _)).mono ?_; rintro e w2 ⟨rfl, hb⟩; have HB2 := hide ((((unhide HB1).alloc (unhide HB1).size (.cells #[.chan (some c2)] 53)).trans (hb.mono (by have := (unhide HB1).size; simp; omega)))); clear hb)
      go_roundg (gk - 1)
      case measure => omega
      case rel => exact ⟨3, _, _, _, rfl, by go_num, by omega, rfl, rfl, by have := unhide HY; simp only [upTo]; omega, unhide HB2⟩
    · simp only [upTo] at hm; subst hm
      obtain rfl : z = 3 := by omega
      have hw : IntKind.i64.wrap (y + (n3 : Int)) = y + (n3 : Int) := by refine wrap_add y _ (by omega) (by omega)
      have HY := hide hy
      have HM1 := hide hM
      clear hy hz hM
      have hx := idx54_3 c0 c1 c2 c3
      go_wp2_with (go_at_call 29; refine (unhide H3 _ ((unhide HBX).alloc (unhide HBX).size _)).mono ?_; rintro e w2 ⟨rfl, hb⟩; have HB2 := hide ((((unhide HB1).alloc (unhide HB1).size (.cells #[.chan (some c3)] 53)).trans (hb.mono (by have := (unhide HB1).size; simp; omega)))); clear hb)
      go_roundg (gk - 1)
      case measure => omega
      case rel => exact ⟨4, _, _, _, rfl, by go_num, by omega, rfl, rfl, by have := unhide HY; simp only [upTo]; omega, unhide HB2⟩
    · simp only [upTo] at hm; subst hm
      obtain rfl : z = 4 := by omega
      have HY := hide hy
      clear hy hz
      go_wp2
      go_ret
      exact ⟨by rw [unhide HY]; rfl, unhide HBX⟩
end Go.Proofs.Ytdfcdgjmjionbaa
