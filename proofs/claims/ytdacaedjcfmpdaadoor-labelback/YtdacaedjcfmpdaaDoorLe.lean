/-
  The document's Name and Meta; that the program answers at all; the walks of LabelOf, LabelNames, LabelApart and LabelLong.
-/
import Derived.Test.YtdacaedjcfmpdaaDoorLd
namespace Go.Proofs.YtdacaedjcfmpdaaDoor
open Go.RowKit Go.Lib

def metaP (n : Int) : Int := if n = 1 ∨ n = 2 then 0 else if n = 6 then 3 else n
theorem refMeta_any (n : Int) (w : World) : Calls Tryd.prog 14 #[.int .i64 n] w fun e w' => e = .returned (.int .i64 (if n = 1 ∨ n = 2 then 0 else if n = 6 then 3 else n)) ∧ w = w' := by
  by_cases h1 : n = 1
  · subst h1
    go_enter Tryd.func14, Tryd.ntmps14
    go_wp2
    go_ret
    exact ⟨rfl, rfl⟩
  · by_cases h2 : n = 2
    · subst h2
      go_enter Tryd.func14, Tryd.ntmps14
      go_wp2
      go_ret
      exact ⟨rfl, rfl⟩
    · have b1 : (n == 1) = false := by simpa using h1
      have b2 : (n == 2) = false := by simpa using h2
      by_cases h6 : n = 6
      · subst h6
        go_enter Tryd.func14, Tryd.ntmps14
        go_wp2
        go_ret
        exact ⟨rfl, rfl⟩
      · have b6 : (n == 6) = false := by simpa using h6
        rw [if_neg (by omega), if_neg h6]
        clear h1 h2 h6
        go_enter Tryd.func14, Tryd.ntmps14
        go_wp2
        go_ret
        exact ⟨rfl, rfl⟩

structure NamesAt (w : World) (b : Nat) : Prop where
  name : ∀ (k : Nat) n, encN[k]? = some n → w.cell? ⟨b, k, none⟩ = some (.string ⟨n.toArray⟩)
set_option maxHeartbeats 1000000 in
theorem names_any (w : World) : Calls Tryd.prog 20 #[] w fun e w' => e = .returned (.slice (some ⟨w.heap.size, 0, none⟩) 7 7) ∧ NamesAt w' w.heap.size ∧ Below w.heap.size w w' := by
  go_enter Tryd.func20, Tryd.ntmps20
  go_wp2
  go_ret
  refine ⟨rfl, ⟨fun k n hn => ?_⟩, (Below.refl _ _).alloc (Nat.le_refl _) _⟩
  have hk : k < 7 := by have := (List.getElem?_eq_some_iff.1 hn).1; rw [encN_len] at this; exact this
  rw [World.cell?_alloc_at _ _ _ _ rfl]
  rcases (by omega : k = 0 ∨ k = 1 ∨ k = 2 ∨ k = 3 ∨ k = 4 ∨ k = 5 ∨ k = 6) with rfl | rfl | rfl | rfl | rfl | rfl | rfl <;> (cases hn; rfl)

set_option maxHeartbeats 1000000 in
theorem refName_any (n : Int) (w : World) :
    Calls Tryd.prog 12 #[.int .i64 n] w fun e w' => e = .returned (.tuple #[.string ⟨(nmP n).toArray⟩, .int .i64 (nmF n)]) ∧ Below w.heap.size w w' := by
  by_cases h0 : n < 0
  · have e1 : nmP n = [] := by unfold nmP; rw [if_neg (by omega)]
    have e2 : nmF n = 1 := by unfold nmF; rw [if_neg (by omega)]
    rw [e1, e2]
    clear e1 e2
    go_enter Tryd.func12, Tryd.ntmps12
    go_wp2
    go_ret2
    exact ⟨rfl, Below.refl _ _⟩
  · by_cases h7 : 7 ≤ n
    · have e1 : nmP n = [] := by unfold nmP; rw [if_pos (by omega), List.getElem?_eq_none (by rw [encN_len]; omega)]; rfl
      have e2 : nmF n = 1 := by unfold nmF; rw [if_neg (by omega)]
      rw [e1, e2]
      clear e1 e2
      go_enter Tryd.func12, Tryd.ntmps12
      go_wp2_with (go_at_call 20; refine (names_any _).mono ?_; rintro e w1 ⟨rfl, hn1, hb1⟩; have HB1 := hide hb1; clear hn1 hb1)
      go_ret2
      exact ⟨rfl, unhide HB1⟩
    · obtain ⟨k, rfl⟩ : ∃ k : Nat, n = k := ⟨n.toNat, by omega⟩
      have hk : k < 7 := by omega
      obtain ⟨m, hm⟩ : ∃ m, encN[k]? = some m := ⟨_, List.getElem?_eq_getElem (by rw [encN_len]; exact hk)⟩
      have e1 : nmP (k : Int) = m := by unfold nmP; rw [if_pos (by omega), Int.toNat_natCast, hm]; rfl
      have e2 : nmF (k : Int) = 0 := by unfold nmF; rw [if_pos (by omega)]
      rw [e1, e2]
      have HM := hide hm
      clear e1 e2 hm
      have h7z : (k : Int) < 7 := by omega
      have HB0 := hide (Below.refl w.heap.size w)
      have hN : Hid (∀ w1, Below w.heap.size w w1 → Calls Tryd.prog 20 #[] w1 fun e w' => e = .returned (.slice (some ⟨w1.heap.size, 0, none⟩) 7 7) ∧ w'.cell? ⟨w1.heap.size, k, none⟩ = some (.string ⟨m.toArray⟩) ∧ Below w.heap.size w w') :=
        hide (fun w1 h1 => (names_any w1).mono fun e w' ⟨h2, h3, h4⟩ => ⟨h2, h3.name k m (unhide HM), h1.trans (h4.mono h1.size)⟩)
      go_enter Tryd.func12, Tryd.ntmps12
      go_wp2_with (go_at_call 20; refine ((unhide hN) _ (by first | exact unhide HB0 | exact unhide HB1)).mono ?_; rintro e w1 ⟨rfl, hn1, hb1⟩; have HB1 := hide hb1; clear hb1)
      go_ret2
      exact ⟨rfl, unhide HB1⟩

theorem of_from (w : World) (s : ByteArray) (hs : s.size ≤ 9223372036854775807) (w1 : World) (hb : Below w.heap.size w w1) :
    Calls Tryd.prog 8 #[.string s] w1 fun e w' => e = .returned (.tuple #[.int .i64 (ofE (norm s.data.toList)), .int .i64 (ofF (norm s.data.toList))]) ∧ Below w.heap.size w w' :=
  (of_any s w1 hs).mono fun _ _ ⟨h1, h2⟩ => ⟨h1, hb.trans (h2.mono hb.size)⟩
theorem refOf_from (w : World) (s : ByteArray) (hs : s.size ≤ 9223372036854775807) (w1 : World) (hb : Below w.heap.size w w1) :
    Calls Tryd.prog 9 #[.string s] w1 fun e w' => e = .returned (.tuple #[.int .i64 (ofE (norm s.data.toList)), .int .i64 (ofF (norm s.data.toList))]) ∧ Below w.heap.size w w' :=
  (refOf_any s w1 hs).mono fun _ _ ⟨h1, h2⟩ => ⟨h1, hb.trans (h2.mono hb.size)⟩

theorem latin1_E : ofE (norm [108, 97, 116, 105, 110, 49]) = 3 := by decide +kernel
theorem latin1_F : ofF (norm [108, 97, 116, 105, 110, 49]) = 0 := by decide +kernel
theorem empty_F : ofF (norm []) = 40 := by decide +kernel

theorem awake_from (w : World) (w1 : World) (hb : Below w.heap.size w w1) : Calls Tryd.prog 10 #[] w1 fun e w' => e = .returned (.bool true) ∧ Below w.heap.size w w' := by
  have h := of_from w ⟨#[108, 97, 116, 105, 110, 49]⟩ (by decide) w1 hb
  have e1 : ofE (norm (⟨#[108, 97, 116, 105, 110, 49]⟩ : ByteArray).data.toList) = 3 := latin1_E
  have e2 : ofF (norm (⟨#[108, 97, 116, 105, 110, 49]⟩ : ByteArray).data.toList) = 0 := latin1_F
  rw [e1, e2] at h
  have H := hide h
  clear h e1 e2
  go_enter Tryd.func10, Tryd.ntmps10
  go_wp2_with (go_at_call 8; refine (unhide H).mono ?_; rintro e w2 ⟨rfl, hb2⟩)
  go_ret
  exact ⟨rfl, hb2⟩

theorem labelOf_walk (s : ByteArray) (w : World) (hs : s.size ≤ 9223372036854775807) :
    Calls Tryd.prog 3 #[.string s] w fun e w' => e = .returned (.bool true) ∧ Below w.heap.size w w' := by
  have H1 := hide (fun w1 hb => of_from w s hs w1 hb)
  have H2 := hide (fun w1 hb => refOf_from w s hs w1 hb)
  have HB0 := hide (Below.refl w.heap.size w)
  generalize ofE (norm s.data.toList) = n at H1 H2
  generalize ofF (norm s.data.toList) = f at H1 H2
  clear hs
  go_enter Tryd.func3, Tryd.ntmps3
  go_wp2_with (first
    | (go_at_call 8; refine ((unhide H1) _ (unhide HB0)).mono ?_; rintro e w1 ⟨rfl, hb1⟩; have HB1 := hide hb1; clear hb1)
    | (go_at_call 9; refine ((unhide H2) _ (unhide HB1)).mono ?_; rintro e w2 ⟨rfl, hb2⟩; have HB2 := hide hb2; clear hb2)
    | (go_at_call 10; refine (awake_from w _ (unhide HB2)).mono ?_; rintro e w3 ⟨rfl, hb3⟩; have HB3 := hide hb3; clear hb3))
  go_ret
  exact ⟨rfl, unhide HB3⟩

theorem labelNames_walk (n : Int) (w : World) :
    Calls Tryd.prog 4 #[.int .i64 n] w fun e w' => e = .returned (.bool true) ∧ Below w.heap.size w w' := by
  have H1 := hide (fun w1 (hb : Below w.heap.size w w1) => (name_any n w1).mono fun _ _ ⟨h1, h2⟩ => And.intro h1 (hb.trans (h2.mono hb.size)))
  have H2 := hide (fun w1 (hb : Below w.heap.size w w1) => (refName_any n w1).mono fun _ _ ⟨h1, h2⟩ => And.intro h1 (hb.trans (h2.mono hb.size)))
  have H3 := hide (fun w1 => meta_any n w1)
  have H4 := hide (fun w1 => refMeta_any n w1)
  have HB0 := hide (Below.refl w.heap.size w)
  generalize (if n = 1 ∨ n = 2 then (0 : Int) else if n = 6 then 3 else n) = q at H3 H4
  generalize nmP n = m at H1 H2
  generalize nmF n = f at H1 H2
  go_enter Tryd.func4, Tryd.ntmps4
  go_wp2_with (first
    | (go_at_call 11; refine ((unhide H1) _ (unhide HB0)).mono ?_; rintro e w1 ⟨rfl, hb1⟩; have HB1 := hide hb1; clear hb1)
    | (go_at_call 12; refine ((unhide H2) _ (unhide HB1)).mono ?_; rintro e w2 ⟨rfl, hb2⟩; have HB2 := hide hb2; clear hb2)
    | (go_at_call 13; refine ((unhide H3) _).mono ?_; rintro e w3 ⟨rfl, rfl⟩)
    | (go_at_call 14; refine ((unhide H4) _).mono ?_; rintro e w4 ⟨rfl, rfl⟩)
    | (go_at_call 10; refine (awake_from w _ (unhide HB2)).mono ?_; rintro e w5 ⟨rfl, hb5⟩; have HB5 := hide hb5; clear hb5))
  go_ret
  exact ⟨rfl, unhide HB5⟩

theorem trimR_last (l : List UInt8) (c : UInt8) (h : cs.contains c = true) : Lib.trimRightS (l ++ [c]) cs = Lib.trimRightS l cs := by
  unfold Lib.trimRightS
  rw [List.reverse_append, List.reverse_singleton, List.singleton_append, List.dropWhile_cons, if_pos h]
theorem trimR_stay (l : List UInt8) (c : UInt8) (h : cs.contains c = false) : Lib.trimRightS (l ++ [c]) cs = l ++ [c] := by
  unfold Lib.trimRightS
  rw [List.reverse_append, List.reverse_singleton, List.singleton_append, List.dropWhile_cons, if_neg (by rw [h]; decide), List.reverse_cons, List.reverse_reverse]
theorem trimL_first (l : List UInt8) (c : UInt8) (h : cs.contains c = true) : Lib.trimLeftS (c :: l) cs = Lib.trimLeftS l cs := by
  unfold Lib.trimLeftS
  rw [List.dropWhile_cons, if_pos h]
theorem trim_last (l : List UInt8) (c : UInt8) (h : cs.contains c = true) : Lib.trimS (l ++ [c]) cs = Lib.trimS l cs := by
  unfold Lib.trimS; rw [trimR_last l c h]
theorem trim_first (l : List UInt8) (c : UInt8) (h : cs.contains c = true) : Lib.trimS (c :: l) cs = Lib.trimS l cs := by
  rw [← trim_comm, ← trim_comm, trimL_first l c h]
theorem norm_last (l : List UInt8) (c : UInt8) (h : cs.contains c = true) : norm (l ++ [c]) = norm l := congrArg (List.map low) (trim_last l c h)
theorem norm_first (l : List UInt8) (c : UInt8) (h : cs.contains c = true) : norm (c :: l) = norm l := congrArg (List.map low) (trim_first l c h)

def long : List UInt8 := [45, 105, 115, 111, 45, 56, 56, 53, 57, 45, 49, 45, 119, 105, 110, 100, 111, 119, 115, 45, 49, 50, 53, 50]
theorem labs_short : labs.all (fun L => L.all fun x => decide (x.length ≤ 20)) = true := by decide +kernel
theorem dropWhile_keeps (l r : List UInt8) (c : UInt8) (h : cs.contains c = false) : r.length + 1 ≤ (Lib.trimLeftS (l ++ c :: r) cs).length := by
  induction l with
  | nil => unfold Lib.trimLeftS; rw [List.nil_append, List.dropWhile_cons, if_neg (by rw [h]; decide)]; simp
  | cons x l ih =>
    unfold Lib.trimLeftS at ih ⊢
    rw [List.cons_append, List.dropWhile_cons]
    split
    · exact ih
    · simp; omega
theorem long_F (l : List UInt8) : ofF (norm (l ++ long)) = 40 := by
  have e : Lib.trimS (l ++ long) cs = Lib.trimLeftS (l ++ long) cs := by
    unfold Lib.trimS
    have e2 : l ++ long = (l ++ [45, 105, 115, 111, 45, 56, 56, 53, 57, 45, 49, 45, 119, 105, 110, 100, 111, 119, 115, 45, 49, 50, 53]) ++ [50] := by simp [long]
    rw [e2, trimR_stay _ 50 (by decide)]
  have h24 : 24 ≤ (norm (l ++ long)).length := by
    show 24 ≤ ((Lib.trimS (l ++ long) cs).map low).length
    rw [List.length_map, e]
    exact dropWhile_keeps l [105, 115, 111, 45, 56, 56, 53, 57, 45, 49, 45, 119, 105, 110, 100, 111, 119, 115, 45, 49, 50, 53, 50] 45 (by decide)
  have : ofP (norm (l ++ long)) = none := ofP_none _ (fun j L hL hin => by
    have := List.all_eq_true.1 labs_short L (List.mem_of_getElem? hL)
    have := of_decide_eq_true (List.all_eq_true.1 this _ hin)
    omega)
  unfold ofF
  rw [this]; rfl

set_option maxHeartbeats 1000000 in
theorem labelLong_walk (s : ByteArray) (w : World) (hs : s.size ≤ 140737488351232) :
    Calls Tryd.prog 7 #[.string s] w fun e w' => e = .returned (.bool true) ∧ Below w.heap.size w w' := by
  have hz : (s ++ (⟨#[45, 105, 115, 111, 45, 56, 56, 53, 57, 45, 49, 45, 119, 105, 110, 100, 111, 119, 115, 45, 49, 50, 53, 50]⟩ : ByteArray)).size ≤ 9223372036854775807 := by
    rw [ByteArray.size_append]
    have : (⟨#[45, 105, 115, 111, 45, 56, 56, 53, 57, 45, 49, 45, 119, 105, 110, 100, 111, 119, 115, 45, 49, 50, 53, 50]⟩ : ByteArray).size = 24 := rfl
    omega
  have hl : ofF (norm (s ++ (⟨#[45, 105, 115, 111, 45, 56, 56, 53, 57, 45, 49, 45, 119, 105, 110, 100, 111, 119, 115, 45, 49, 50, 53, 50]⟩ : ByteArray)).data.toList) = 40 := by
    have e : (s ++ (⟨#[45, 105, 115, 111, 45, 56, 56, 53, 57, 45, 49, 45, 119, 105, 110, 100, 111, 119, 115, 45, 49, 50, 53, 50]⟩ : ByteArray)).data.toList = s.data.toList ++ long := by simp [long]
    rw [e]; exact long_F _
  have h1 := fun w1 hb => of_from w (s ++ (⟨#[45, 105, 115, 111, 45, 56, 56, 53, 57, 45, 49, 45, 119, 105, 110, 100, 111, 119, 115, 45, 49, 50, 53, 50]⟩ : ByteArray)) hz w1 hb
  rw [hl] at h1
  have h2 := fun w1 hb => of_from w ⟨#[]⟩ (by decide) w1 hb
  have e2 : ofF (norm (⟨#[]⟩ : ByteArray).data.toList) = 40 := empty_F
  rw [e2] at h2
  have H1 := hide h1
  have H2 := hide h2
  have HB0 := hide (Below.refl w.heap.size w)
  have hq : ¬ 9223372036854775807 < s.size + 24 := by omega
  clear h1 h2 hl e2 hz hs
  go_enter Tryd.func7, Tryd.ntmps7
  go_wp2_with (first
    | (go_at_call 8; first
        | (refine ((unhide H2) _ (unhide HB1)).mono ?_; rintro e w2 ⟨rfl, hb2⟩; have HB2 := hide hb2; clear hb2)
        | (refine ((unhide H1) _ (unhide HB0)).mono ?_; rintro e w1 ⟨rfl, hb1⟩; have HB1 := hide hb1; clear hb1))
    | (go_at_call 10; refine (awake_from w _ (unhide HB2)).mono ?_; rintro e w3 ⟨rfl, hb3⟩; have HB3 := hide hb3; clear hb3))
  go_ret
  exact ⟨rfl, unhide HB3⟩

end Go.Proofs.YtdacaedjcfmpdaaDoor
