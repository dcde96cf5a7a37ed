/-
  Package quirk: what a doctype has; closures over a doctype; slices.IndexFunc and slices.ContainsFunc over texts.
-/
import Derived.Test.YtnnegdcoihcanaaQl
import Derived.Shelf.GgClosure.Gives
namespace Go.Proofs.Ytnnegdcoihcanaa
open Go.RowKit Go.Lib

def hasB (h p : Int) : Bool := bits BinOp.and IntKind.i64 h p != 0

section
variable (k : Int) (nm da sy : ByteArray) (hs : Int) (qk : Bool) (ch : Int) (se : Bool) (a : Option Addr) (len cap : Nat)

theorem has_any (p : Int) (w : World) : Calls Try.prog 14 #[.agg #[.int .i64 k, .string nm, .string da, .string sy, .int .i64 hs, .bool qk, .int .i32 ch, .bool se, .slice a len cap], .int .i64 p] w fun e w' => e = .returned (.bool (hasB hs p)) ∧ Below w.heap.size w w' := by
  go_enter Try.func14, Try.ntmps14
  go_wp2
  go_ret
  exact ⟨rfl, (Below.refl _ w).alloc (Nat.le_refl _) _⟩
end

/-- A text in a cell of its own, as a closure has it. -/
theorem begun_any (d s : ByteArray) (B : Nat) (w : World) (hd : (d.size : Int) ≤ 140737488355328) (hB : w.cell? ⟨B, 2, none⟩ = some (.string d)) :
    Calls Try.prog 17 #[.string s, .pointer (some ⟨B, 0, none⟩)] w fun e w' => e = .returned (.bool (begM d s)) ∧ ∃ q, w' = w.drewN q := by
  unfold begM
  by_cases h : (s.size : Int) ≤ (d.size : Int)
  · have hd1 : decide ((s.size : Int) ≤ (d.size : Int)) = true := decide_eq_true h
    have HS := hide (fun W => same_any (d.extract 0 s.size) s W (by rw [ByteArray.size_extract]; omega))
    rw [hd1, Bool.true_and]
    generalize sameM (d.extract 0 s.size) s = r at HS
    clear hd1
    go_enter Try.func17, Try.ntmps17
    go_wp2_with (go_at_call 16; refine (unhide HS _).mono ?_; rintro e w' ⟨rfl, q, rfl⟩)
    go_ret
    exact ⟨rfl, _, rfl⟩
  · have hd1 : decide ((s.size : Int) ≤ (d.size : Int)) = false := decide_eq_false h
    rw [hd1, Bool.false_and]
    clear hd1
    go_enter Try.func17, Try.ntmps17
    go_wp2
    go_ret
    exact ⟨rfl, 0, rfl⟩

theorem whole_any (d s : ByteArray) (B : Nat) (w : World) (hd : (d.size : Int) ≤ 140737488355328) (hB : w.cell? ⟨B, 2, none⟩ = some (.string d)) :
    Calls Try.prog 21 #[.string s, .pointer (some ⟨B, 0, none⟩)] w fun e w' => e = .returned (.bool (sameM d s)) ∧ ∃ q, w' = w.drewN q := by
  have HS := hide (fun W => same_any d s W (by omega))
  generalize sameM d s = r at HS
  go_enter Try.func21, Try.ntmps21
  go_wp2_with (go_at_call 16; refine (unhide HS _).mono ?_; rintro e w' ⟨rfl, q, rfl⟩)
  go_ret
  exact ⟨rfl, _, rfl⟩

set_option maxHeartbeats 1000000 in
theorem index_any (p : ByteArray → Bool) (g B b : Nat) (eg : ∀ args w, (callFunc g args).run Try.prog w = .ok (.enter g args) w) (l : List ByteArray) (hl : l.length ≤ 1000) (w : World)
    (hp : ∀ W s, Below w.heap.size w W → Calls Try.prog g #[.string s, .pointer (some ⟨B, 0, none⟩)] W fun e w' => e = .returned (.bool (p s)) ∧ ∃ q, w' = W.drewN q)
    (hc : ∀ (j : Nat) s, l[j]? = some s → w.cell? ⟨b, j, none⟩ = some (.string s)) :
    Calls Try.prog 23 #[.slice (some ⟨b, 0, none⟩) l.length l.length, .func (.func g) #[] #[.pointer (some ⟨B, 0, none⟩)]] w fun e w' => (∃ r : Int, e = .returned (.int .i64 r) ∧ decide (0 ≤ r) = l.any p) ∧ ∃ q, w' = w.drewN q := by
  have HP := hide (fun (s : ByteArray) (q : Nat) => hp (w.drewN q) s (below_dn (Below.refl _ w) q))
  have hlz : (l.length : Int) ≤ 1000 := by omega
  have HC := hide hc
  clear hp hc hl
  go_enter Try.func23, Try.ntmps23
  go_wp2
  go_loopg [5, 8] l.length (fun gg _ s8 wr => ∃ j q : Nat, j + gg = l.length ∧ s8 = .int .i64 j ∧ wr = w.drewN q ∧ (∀ i s, i < j → l[i]? = some s → p s = false))
  case atStart => exact ⟨0, 0, by omega, rfl, rfl, fun i s hi => absurd hi (Nat.not_lt_zero _)⟩
  case round =>
    obtain ⟨j, q, hjg, rfl, rfl, hno⟩ := hrel
    have HN := hide hno
    clear hno
    by_cases hj : j < l.length
    · have hjz : (j : Int) < (l.length : Int) := by omega
      obtain ⟨y, hy⟩ : ∃ y, l[j]? = some y := ⟨_, List.getElem?_eq_getElem hj⟩
      have hcell := (unhide HC) j y hy
      have hcall := (unhide HP) y
      have HY := hide hy
      clear hy
      cases hq : p y with
      | true =>
        rw [hq] at hcall
        have HQ := hide hq
        clear hq
        go_wp2_with (go_at_fn g; refine (hcall _).mono ?_; rintro e w' ⟨rfl, q', rfl⟩)
        go_ret
        refine ⟨⟨_, rfl, ?_⟩, _, rfl⟩
        rw [List.any_eq_true.2 ⟨y, List.mem_of_getElem? (unhide HY), unhide HQ⟩]
        exact decide_eq_true (by omega)
      | false =>
        rw [hq] at hcall
        have HQ := hide hq
        clear hq
        go_wp2_with (go_at_fn g; refine (hcall _).mono ?_; rintro e w' ⟨rfl, q', rfl⟩)
        go_roundg (gk - 1)
        case measure => omega
        case rel =>
          refine ⟨j + 1, _, by omega, by go_num, rfl, fun i s hi hs => ?_⟩
          by_cases e : i = j
          · subst e; rw [unhide HY] at hs; cases hs; exact unhide HQ
          · exact (unhide HN) i s (by omega) hs
    · have hjz : ¬ (j : Int) < (l.length : Int) := by omega
      obtain rfl : j = l.length := by omega
      go_wp2
      go_ret
      refine ⟨⟨_, rfl, ?_⟩, _, rfl⟩
      have : l.any p = false := by
        rw [List.any_eq_false]
        intro s hs
        obtain ⟨i, hi⟩ := List.getElem?_of_mem hs
        rw [(unhide HN) i s (List.getElem?_eq_some_iff.1 hi).1 hi]
        exact Bool.false_ne_true
      rw [this]
      rfl

theorem contains_any (p : ByteArray → Bool) (g B b : Nat) (eg : ∀ args w, (callFunc g args).run Try.prog w = .ok (.enter g args) w) (l : List ByteArray) (hl : l.length ≤ 1000) (w : World)
    (hp : ∀ W s, Below w.heap.size w W → Calls Try.prog g #[.string s, .pointer (some ⟨B, 0, none⟩)] W fun e w' => e = .returned (.bool (p s)) ∧ ∃ q, w' = W.drewN q)
    (hc : ∀ (j : Nat) s, l[j]? = some s → w.cell? ⟨b, j, none⟩ = some (.string s)) :
    Calls Try.prog 19 #[.slice (some ⟨b, 0, none⟩) l.length l.length, .func (.func g) #[] #[.pointer (some ⟨B, 0, none⟩)]] w fun e w' => e = .returned (.bool (l.any p)) ∧ ∃ q, w' = w.drewN q := by
  have HI := hide (index_any p g B b eg l hl w hp hc)
  clear hp hc hl
  generalize l.any p = r at HI
  go_enter Try.func19, Try.ntmps19
  go_wp2_with (go_at_call 23; refine (unhide HI).mono ?_; rintro e w' ⟨⟨i, rfl, hi⟩, q, rfl⟩)
  go_ret
  exact ⟨by rw [← hi]; rfl, _, rfl⟩
end Go.Proofs.Ytnnegdcoihcanaa
