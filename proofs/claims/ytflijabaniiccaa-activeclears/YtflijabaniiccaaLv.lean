/-
  ActiveClears' walk.
-/
import Derived.Test.YtflijabaniiccaaLu
import Derived.Laws.BytesArg
namespace Go.Proofs.Ytflijabaniiccaa
open Go.RowKit Go.Sort

def midC (n : Nat) (mark : Bool) (i : Nat) : List EntM := if i = n ∧ mark = true then esC n mark i ++ [mark0] else esC n mark i
theorem mod20 (x : Int) (h0 : 0 ≤ x) : ∃ n : Nat, n < 20 ∧ x.tmod 20 = (n : Int) := by
  have h1 := Int.tmod_nonneg (a := x) 20 h0
  have h2 := Int.tmod_lt_of_pos x (show (0 : Int) < 20 by omega)
  exact ⟨(x.tmod 20).toNat, by omega, by omega⟩

theorem byteConv (W : World) (i : Nat) : (convert 67 9 (.slice (some ⟨W.heap.size, 0, none⟩) 1 1)).run Try.prog (W.alloc (.cells #[.int .u8 (i : Int)] 5)) = .ok (.string (byteS i)) (W.alloc (.cells #[.int .u8 (i : Int)] 5)) :=
  run_convert_bytes_arg _ 67 5 Try.underlying67 Try.underlying5 _ 0 1 1 [(i : Int)] rfl (fun j hj => by
    obtain rfl : j = 0 := by omega
    exact cell_of_row _ _ 0 _ _ _ (heap_alloc_new W _)) 9 Try.underlying9
attribute [local go_sem] byteConv
theorem attrsC (W : World) (i : Nat) : AttrsIn ((W.alloc (.cells #[.int .u8 (i : Int)] 5)).alloc (.cells #[.int .i64 0, .string ⟨#[]⟩, .string ⟨#[120]⟩, .string (byteS i)] 73)) (some ⟨W.heap.size + 1, 0, none⟩) [attC i] := by
  have h := heap_alloc2_new W (.cells #[.int .u8 (i : Int)] 5) (.cells #[.int .i64 0, .string ⟨#[]⟩, .string ⟨#[120]⟩, .string (byteS i)] 73)
  refine ⟨fun j x hj => ?_⟩
  cases j with
  | zero =>
    simp at hj
    subst hj
    exact ⟨_, 0, rfl, cell_of_row _ _ 0 _ _ _ h, cell_of_row _ _ 1 _ _ _ h, cell_of_row _ _ 2 _ _ _ h, cell_of_row _ _ 3 _ _ _ h⟩
  | succ j => simp at hj
set_option maxRecDepth 100000 in
set_option maxHeartbeats 4000000 in
theorem lclears_walk (x y : Int) (mark : Bool) (hx : 0 ≤ x) (hy : 0 ≤ y) (w : World) : Calls Try.prog 7 #[.int .u8 x, .int .u8 y, .bool mark] w fun e w' => e = .returned (.bool true) ∧ Below w.heap.size w w' := by
  have HN := hide (new_k w w.heap.size (Nat.le_refl _))
  obtain ⟨n, hn, en⟩ := mod20 x hx
  obtain ⟨m, hm, em⟩ := mod20 y hy
  have wn : wrap64 ((n : Nat) : Int) = n := by unfold wrap64; omega
  have wm : wrap64 ((m : Nat) : Int) = m := by unfold wrap64; omega
  have hnz : (n : Int) < 20 := by omega
  have hmz : (m : Int) < 20 := by omega
  have hn0 : 0 ≤ (n : Int) := by omega
  have hm0 : 0 ≤ (m : Int) := by omega
  have HNM := hide (And.intro hn hm)
  clear hx hy hn hm
  go_enter Try.func7, Try.ntmps7
  go_wp2_with (first | (go_at_call 36; refine (unhide HN).mono ?_; rintro e w1 ⟨bA, FA, rfl, ha, hb, hFA⟩; have HA := hide ha; have HB := hide hb; clear ha hb hFA) | (go_at_call 17; refine (lnew_any (base := w.heap.size) (unhide HA) (unhide HB).size).mono ?_; rintro e w2 ⟨bL, FL, rfl, hl, hb2, hFL⟩; have HT := hide (Two.new w (unhide HA) (unhide HB) hl hb2 hFL); clear hl hb2 hFL))
  clear en em wn wm HN HA HB
  go_loopg [12, 13, 14] (n + m) (fun g s12 _ _ wr => ∃ i : Nat, s12 = .int .i64 (i : Int) ∧ i + g = n + m ∧ Two w wr bA bL (ksC i) (esC n mark i))
  case atStart => exact ⟨0, rfl, by omega, unhide HT⟩
  case round =>
    obtain ⟨i, rfl, hig, hv⟩ := hrel
    have HV := hide hv
    have HG := hide hig
    clear hv
    by_cases hi : i < n + m
    · have hiz : (i : Int) < (n : Int) + (m : Int) := by omega
      have hi0 : 0 ≤ (i : Int) := by omega
      have hi40 : i < 40 := by have := unhide HNM; omega
      have HL := hide (esC_len n mark i)
      have H2 : Hid (∀ wx, Two w wx bA bL (ksC i) (esC n mark i) → Calls Try.prog 29 #[.pointer (some ⟨bL, 0, none⟩)] wx fun e w' => e = .returned (.int .i64 0) ∧ Two w w' bA bL (ksC i) (esC n mark i ++ [mark0])) := hide (fun wx hv => two_mark hv (by have := unhide HL; omega))
      have H3 : Hid (∀ wx es, Two w wx bA bL (ksC i) es → Calls Try.prog 37 #[.pointer (some ⟨bA, 0, none⟩), .int .i64 0, .string nameB, .slice none 0 0] wx fun e w' => e = .returned (.tuple #[.int .i64 ((i : Int) + 1), .int .i64 0]) ∧ Two w w' bA bL (ksC (i + 1)) es) := hide (fun wx es hv => by
        have := two_elem hv 0 nameB
        rw [elemC hi40] at this
        exact this)
      have H4 : Hid (∀ wx a, Two w wx bA bL (ksC (i + 1)) (midC n mark i) → AttrsIn wx a [attC i] → Calls Try.prog 30 #[.pointer (some ⟨bL, 0, none⟩), .int .i64 ((i : Int) + 1), .agg #[.int .i64 0, .string ⟨#[]⟩, .string ⟨#[]⟩, .string ⟨#[]⟩, .int .i64 0, .bool false, .int .i32 0, .bool false, .slice a 1 1]] wx fun e w' => e = .returned (.int .i64 0) ∧ Two w w' bA bL (ksC (i + 1)) (esC n mark (i + 1))) := hide (fun wx a hv ha => by
        have h1 := push_new hi40 (fun x hx => midC_mem (n := n) (mark := mark) hx)
        have hl2 : (midC n mark i).length < 1000000000000 := by
          have := unhide HL
          unfold midC
          split
          · rw [List.length_append]; simp; omega
          · omega
        have := two_push hv hl2 ((i + 1 : Nat) : Int) (tokC i) a 1 ha (by simp [tokC])
        rw [show midC n mark i = (if i = n ∧ mark = true then esC n mark i ++ [mark0] else esC n mark i) from rfl, h1.1, h1.2] at this
        exact this)
      clear hi40 hig hi
      by_cases hmk : i = n ∧ mark = true
      · obtain ⟨rfl, rfl⟩ := hmk
        have hmid : midC i true i = esC i true i ++ [mark0] := by rw [midC, if_pos ⟨rfl, rfl⟩]
        rw [hmid] at H4
        clear hmid
        go_wp2_with (first
          | (go_at_call 29; refine ((unhide H2) _ (unhide HV)).mono ?_; rintro e w3 ⟨rfl, hv⟩; have E3 := hide hv; clear hv)
          | (go_at_call 37; refine ((unhide H3) _ _ (unhide E3)).mono ?_; rintro e w4 ⟨rfl, hv⟩; have E4 := hide hv; clear hv)
          | (go_at_call 30; refine ((unhide H4) _ _ ((unhide E4).more (below_two _ _ _)) (attrsC _ _)).mono ?_; rintro e w5 ⟨rfl, hv⟩; have E5 := hide hv; clear hv))
        go_roundg (gk - 1)
        case measure => have := unhide HG; omega
        case rel => exact ⟨i + 1, by go_num, by have := unhide HG; omega, unhide E5⟩
      · have hmid : midC n mark i = esC n mark i := by rw [midC, if_neg hmk]
        rw [hmid] at H4
        clear hmid
        by_cases hin : i = n
        · subst hin
          obtain rfl : mark = false := by cases mark <;> simp_all
          clear hmk
          go_wp2_with (first
            | (go_at_call 37; refine ((unhide H3) _ _ (unhide HV)).mono ?_; rintro e w4 ⟨rfl, hv⟩; have E4 := hide hv; clear hv)
            | (go_at_call 30; refine ((unhide H4) _ _ ((unhide E4).more (below_two _ _ _)) (attrsC _ _)).mono ?_; rintro e w5 ⟨rfl, hv⟩; have E5 := hide hv; clear hv))
          go_roundg (gk - 1)
          case measure => have := unhide HG; omega
          case rel => exact ⟨i + 1, by go_num, by have := unhide HG; omega, unhide E5⟩
        · have hne : ¬ (i : Int) = (n : Int) := by omega
          clear hmk hin
          go_wp2_with (first
            | (go_at_call 37; refine ((unhide H3) _ _ (unhide HV)).mono ?_; rintro e w4 ⟨rfl, hv⟩; have E4 := hide hv; clear hv)
            | (go_at_call 30; refine ((unhide H4) _ _ ((unhide E4).more (below_two _ _ _)) (attrsC _ _)).mono ?_; rintro e w5 ⟨rfl, hv⟩; have E5 := hide hv; clear hv))
          go_roundg (gk - 1)
          case measure => have := unhide HG; omega
          case rel => exact ⟨i + 1, by go_num, by have := unhide HG; omega, unhide E5⟩
    · obtain rfl : i = n + m := by omega
      have hl40 : (esC n mark (n + m)).length ≤ 80 := by have := esC_len n mark (n + m); have := unhide HNM; omega
      have hcast : ((n + m : Nat) : Int) = (n : Int) + (m : Int) := by omega
      rw [hcast]
      have hiz : ¬ ((n : Int) + (m : Int) < (n : Int) + (m : Int)) := by omega
      clear hcast hig hi
      cases mark with
      | false =>
        have HE : Hid (endC n m false = esC n false (n + m)) := hide (by rw [endC, if_neg (by simp)])
        have C1 : Hid (∀ wx, Two w wx bA bL (ksC (n + m)) (esC n false (n + m)) → Calls Try.prog 32 #[.pointer (some ⟨bL, 0, none⟩)] wx fun e w' => e = .returned (.int .i64 ((n : Int) + (m : Int))) ∧ Two w w' bA bL (ksC (n + m)) []) := hide (fun wx hv => by
          have h := two_clear hv (by omega)
          rw [← unhide HE, (clear_no n m).1, (clear_no n m).2.1, (clear_no n m).2.2] at h
          refine h.mono ?_
          rintro e w' ⟨rfl, h2⟩
          exact ⟨by simp, h2⟩)
        have C2 : Hid (∀ wx, Two w wx bA bL (ksC (n + m)) [] → Calls Try.prog 20 #[.pointer (some ⟨bL, 0, none⟩)] wx fun e w' => e = .returned (.int .i64 0) ∧ wx = w') := hide (fun wx hv => two_len hv)
        clear hl40
        go_wp2_with (first | (go_at_call 32; refine ((unhide C1) _ (unhide HV)).mono ?_; rintro e w4 ⟨rfl, hv⟩; have E4 := hide hv; clear hv) | (go_at_call 20; refine ((unhide C2) _ (unhide E4)).mono ?_; rintro e w5 ⟨rfl, rfl⟩))
        all_goals go_ret
        all_goals exact ⟨rfl, (unhide E4).1⟩
      | true =>
        have HLE : Hid ((endC n m true).length ≤ 81) := hide (by
          unfold endC
          split
          · rw [List.length_append]; simp; omega
          · omega)
        have C1 : Hid (∀ wx, Two w wx bA bL (ksC (n + m)) (endC n m true) → Calls Try.prog 32 #[.pointer (some ⟨bL, 0, none⟩)] wx fun e w' => e = .returned (.int .i64 ((m : Int) + 1)) ∧ Two w w' bA bL (ksC (n + m)) (rowC 0 n)) := hide (fun wx hv => by
          have h := two_clear hv (by have := unhide HLE; omega)
          rw [(clear_yes n m).1, (clear_yes n m).2.1, (clear_yes n m).2.2] at h
          refine h.mono ?_
          rintro e w' ⟨rfl, h2⟩
          refine ⟨?_, h2⟩
          congr 2
          omega)
        have C2 : Hid (∀ wx, Two w wx bA bL (ksC (n + m)) (rowC 0 n) → Calls Try.prog 20 #[.pointer (some ⟨bL, 0, none⟩)] wx fun e w' => e = .returned (.int .i64 n) ∧ wx = w') := hide (fun wx hv => by
          have h := two_len hv
          rw [rowC_len] at h
          exact h)
        have C3 : Hid (∀ wx, Two w wx bA bL (ksC (n + m)) (rowC 0 n) → Calls Try.prog 21 #[.pointer (some ⟨bL, 0, none⟩), .int .i64 n] wx fun e w' => e = .returned (.int .i64 (placeE (rowC 0 n) n)) ∧ Two w w' bA bL (ksC (n + m)) (rowC 0 n)) := hide (fun wx hv => two_find hv (by rw [rowC_len]; have := unhide HNM; omega) n)
        have hfi : ¬ (n : Int) = 0 → placeE (rowC 0 n) n = (n : Int) - 1 := fun h0 => by
          obtain ⟨k, rfl⟩ : ∃ k, n = k + 1 := ⟨n - 1, by omega⟩
          rw [find_C]
          omega
        generalize placeE (rowC 0 n) n = pf at *
        by_cases hm0' : m = 0
        · subst hm0'
          have C0 : Hid (∀ wx, Two w wx bA bL (ksC (n + 0)) (esC n true (n + 0)) → Calls Try.prog 29 #[.pointer (some ⟨bL, 0, none⟩)] wx fun e w' => e = .returned (.int .i64 0) ∧ Two w w' bA bL (ksC (n + 0)) (endC n 0 true)) := hide (fun wx hv => by
            have h := two_mark hv (by omega)
            rw [show endC n 0 true = esC n true (n + 0) ++ [mark0] from by rw [endC, if_pos ⟨rfl, rfl⟩]]
            exact h)
          clear hl40
          by_cases h0 : (n : Int) = 0
          · clear hfi
            go_wp2_with (first | (go_at_call 29; refine ((unhide C0) _ (unhide HV)).mono ?_; rintro e w3 ⟨rfl, hv⟩; have E3 := hide hv; clear hv) | (go_at_call 32; refine ((unhide C1) _ (unhide E3)).mono ?_; rintro e w4 ⟨rfl, hv⟩; have E4 := hide hv; clear hv) | (go_at_call 20; refine ((unhide C2) _ (unhide E4)).mono ?_; rintro e w5 ⟨rfl, rfl⟩))
            go_ret
            exact ⟨rfl, (unhide E4).1⟩
          · have hfe := hfi h0
            subst hfe
            clear hfi
            go_wp2_with (first | (go_at_call 29; refine ((unhide C0) _ (unhide HV)).mono ?_; rintro e w3 ⟨rfl, hv⟩; have E3 := hide hv; clear hv) | (go_at_call 32; refine ((unhide C1) _ (unhide E3)).mono ?_; rintro e w4 ⟨rfl, hv⟩; have E4 := hide hv; clear hv) | (go_at_call 20; refine ((unhide C2) _ (unhide E4)).mono ?_; rintro e w5 ⟨rfl, rfl⟩) | (go_at_call 21; refine ((unhide C3) _ (unhide E4)).mono ?_; rintro e w6 ⟨rfl, hv⟩; have E6 := hide hv; clear hv))
            go_ret
            exact ⟨rfl, (unhide E6).1⟩
        · have hm1 : ¬ (m : Int) = 0 := by omega
          have HE : Hid (endC n m true = esC n true (n + m)) := hide (by rw [endC, if_neg (by omega)])
          rw [unhide HE] at C1
          clear hl40 hm0'
          by_cases h0 : (n : Int) = 0
          · clear hfi
            go_wp2_with (first | (go_at_call 32; refine ((unhide C1) _ (unhide HV)).mono ?_; rintro e w4 ⟨rfl, hv⟩; have E4 := hide hv; clear hv) | (go_at_call 20; refine ((unhide C2) _ (unhide E4)).mono ?_; rintro e w5 ⟨rfl, rfl⟩))
            go_ret
            exact ⟨rfl, (unhide E4).1⟩
          · have hfe := hfi h0
            subst hfe
            clear hfi
            go_wp2_with (first | (go_at_call 32; refine ((unhide C1) _ (unhide HV)).mono ?_; rintro e w4 ⟨rfl, hv⟩; have E4 := hide hv; clear hv) | (go_at_call 20; refine ((unhide C2) _ (unhide E4)).mono ?_; rintro e w5 ⟨rfl, rfl⟩) | (go_at_call 21; refine ((unhide C3) _ (unhide E4)).mono ?_; rintro e w6 ⟨rfl, hv⟩; have E6 := hide hv; clear hv))
            go_ret
            exact ⟨rfl, (unhide E6).1⟩
end Go.Proofs.Ytflijabaniiccaa
