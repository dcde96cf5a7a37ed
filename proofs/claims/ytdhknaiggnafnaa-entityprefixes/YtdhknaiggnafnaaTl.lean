/-
  The document's Find: what it answers, and that it does.
-/
import Derived.Test.YtdhknaiggnafnaaTe
import Derived.Test.YtdhknaiggnafnaaTj
namespace Go.Proofs.Ytdhknaiggnafnaa
open Go.RowKit Go.Lib

def oldB (t s : ByteArray) : Bool := s.toList == t.toList || s.toList == (t ++ ⟨#[59]⟩).toList
def newB (t s : ByteArray) : Bool := s.toList == (t ++ ⟨#[59]⟩).toList
def twoM (t : List UInt8) : Option (List Int) :=
  bif t == [110, 118, 108, 116, 59] then some [60, 8402] else bif t == [98, 110, 101, 59] then some [61, 8421] else bif t == [102, 106, 108, 105, 103, 59] then some [102, 106] else bif t == [97, 99, 69, 59] then some [8766, 819] else none
def refM (s : ByteArray) : Option (List Int) :=
  match olds.find? (fun x => oldB x.1 s) with
  | some x => some [x.2]
  | none => match news.find? (fun x => newB x.1 s) with
    | some x => some [x.2]
    | none => twoM s.toList

theorem two_any (s : ByteArray) (w : World) : Calls Try.prog 24 #[.string s] w (FindPost (twoM s.toList) w) := by
  have hB : Hid (∀ v, Below w.heap.size w (w.alloc v)) := hide (fun v => (Below.refl _ _).alloc (Nat.le_refl _) _)
  cases h1 : s.toList == [110, 118, 108, 116, 59] with
  | true =>
    have HE : Hid (twoM s.toList = some [60, 8402]) := hide (by unfold twoM; rw [h1]; rfl)
    go_enter Try.func24, Try.ntmps24
    go_wp2
    go_ret2
    rw [unhide HE]
    exact ⟨_, rfl, .inr ⟨_, rfl, new_block _ _⟩, unhide hB _⟩
  | false =>
    cases h2 : s.toList == [98, 110, 101, 59] with
    | true =>
      have HE : Hid (twoM s.toList = some [61, 8421]) := hide (by unfold twoM; rw [h1, h2]; rfl)
      go_enter Try.func24, Try.ntmps24
      go_wp2
      go_ret2
      rw [unhide HE]
      exact ⟨_, rfl, .inr ⟨_, rfl, new_block _ _⟩, unhide hB _⟩
    | false =>
      cases h3 : s.toList == [102, 106, 108, 105, 103, 59] with
      | true =>
        have HE : Hid (twoM s.toList = some [102, 106]) := hide (by unfold twoM; rw [h1, h2, h3]; rfl)
        go_enter Try.func24, Try.ntmps24
        go_wp2
        go_ret2
        rw [unhide HE]
        exact ⟨_, rfl, .inr ⟨_, rfl, new_block _ _⟩, unhide hB _⟩
      | false =>
        cases h4 : s.toList == [97, 99, 69, 59] with
        | true =>
          have HE : Hid (twoM s.toList = some [8766, 819]) := hide (by unfold twoM; rw [h1, h2, h3, h4]; rfl)
          go_enter Try.func24, Try.ntmps24
          go_wp2
          go_ret2
          rw [unhide HE]
          exact ⟨_, rfl, .inr ⟨_, rfl, new_block _ _⟩, unhide hB _⟩
        | false =>
          have HE : Hid (twoM s.toList = none) := hide (by unfold twoM; rw [h1, h2, h3, h4]; rfl)
          go_enter Try.func24, Try.ntmps24
          go_wp2
          go_ret2
          rw [unhide HE]
          exact ⟨_, rfl, .inl ⟨rfl, rfl⟩, Below.refl _ _⟩

theorem olds_sizes : (olds.all fun x => decide (1 ≤ x.1.size) && decide (x.1.size ≤ 9)) = true := by decide +kernel
theorem news_sizes : (news.all fun x => decide (1 ≤ x.1.size) && decide (x.1.size ≤ 9)) = true := by decide +kernel
theorem olds_size (x : ByteArray × Int) (h : x ∈ olds) : x.1.size ≤ 9 := by
  have := List.all_eq_true.1 olds_sizes x h; simp at this; exact this.2
theorem news_size (x : ByteArray × Int) (h : x ∈ news) : x.1.size ≤ 9 := by
  have := List.all_eq_true.1 news_sizes x h; simp at this; exact this.2
theorem olds_len : olds.length = 106 := by decide +kernel
theorem news_len : news.length = 141 := by decide +kernel

set_option maxHeartbeats 1000000 in
theorem refFind_any (s : ByteArray) (w : World) : Calls Try.prog 10 #[.string s] w (FindPost (refM s) w) := by
  have HO : Hid (∀ w, Calls Try.prog 22 #[] w fun e w' => e = .returned (.slice (some ⟨w.heap.size, 0, none⟩) 106 106) ∧ w'.heap[w.heap.size]? = some (.cells (tcells olds) 41 (0, 0)) ∧ Below w.heap.size w w') := hide (fun w => (olds_at w).mono (by
    rintro e w' ⟨rfl, rfl⟩; exact ⟨rfl, new_block _ _, (Below.refl _ _).alloc (Nat.le_refl _) _⟩))
  have HN : Hid (∀ w, Calls Try.prog 23 #[] w fun e w' => e = .returned (.slice (some ⟨w.heap.size, 0, none⟩) 141 141) ∧ w'.heap[w.heap.size]? = some (.cells (tcells news) 41 (0, 0)) ∧ Below w.heap.size w w') := hide (fun w => (news_at w).mono (by
    rintro e w' ⟨rfl, rfl⟩; exact ⟨rfl, new_block _ _, (Below.refl _ _).alloc (Nat.le_refl _) _⟩))
  have HT := hide (fun w => two_any s w)
  have HLO := hide olds_len
  have HLN := hide news_len
  go_enter Try.func10, Try.ntmps10
  go_wp2_with (go_at_call 22; refine (unhide HO _).mono ?_; rintro e w1 ⟨rfl, hb, hw⟩)
  go_loopg [5] 106 (fun k s5 wx => ∃ i : Nat, s5 = .int .i64 i ∧ i + k = 106 ∧ olds.find? (fun x => oldB x.1 s) = (olds.drop i).find? (fun x => oldB x.1 s) ∧ wx.heap[w.heap.size]? = some (.cells (tcells olds) 41 (0, 0)) ∧ Below w.heap.size w wx)
  case atStart => exact ⟨0, rfl, by omega, by rw [List.drop_zero], hb, hw⟩
  case round =>
    clear hb hw
    obtain ⟨i, rfl, hik, hf, hb, hw⟩ := hrel
    have HF := hide hf
    have HW := hide hw
    clear hf hw
    by_cases hi : i < 106
    · have hiz : (i : Int) < 106 := by omega
      obtain ⟨x, hx⟩ : ∃ x, olds[i]? = some x := ⟨_, List.getElem?_eq_getElem (by rw [unhide HLO]; exact hi)⟩
      have HD := hide (drop_cons olds i x hx)
      have hsz := olds_size x (List.mem_of_getElem? hx)
      have c0 := cell_of hb (tcells_two olds i x hx).1
      have c1 := cell_of hb (tcells_two olds i x hx).2
      have HB := hide hb
      obtain ⟨t, p⟩ := x
      simp only [] at c0 c1 hsz
      have hszz : (t.size : Int) ≤ 9 := by omega
      clear hsz hx hb
      cases h1 : s.toList == t.toList with
      | true =>
        have HQ : Hid (oldB t s = true) := hide (by unfold oldB; rw [h1]; rfl)
        go_wp2
        go_ret2
        have e : refM s = some [p] := by unfold refM; rw [unhide HF, unhide HD, find_hit (fun x : ByteArray × Int => oldB x.1 s) (t, p) _ (unhide HQ)]
        rw [e]
        exact ⟨_, rfl, .inr ⟨_, rfl, new_block _ _⟩, (unhide HW).alloc (unhide HW).size _⟩
      | false =>
        cases h2 : s.toList == (t ++ ⟨#[59]⟩).toList with
        | true =>
          have HQ : Hid (oldB t s = true) := hide (by unfold oldB; rw [h1, h2]; rfl)
          go_wp2
          go_ret2
          have e : refM s = some [p] := by unfold refM; rw [unhide HF, unhide HD, find_hit (fun x : ByteArray × Int => oldB x.1 s) (t, p) _ (unhide HQ)]
          rw [e]
          exact ⟨_, rfl, .inr ⟨_, rfl, new_block _ _⟩, (unhide HW).alloc (unhide HW).size _⟩
        | false =>
          have HQ : Hid (oldB t s = false) := hide (by unfold oldB; rw [h1, h2]; rfl)
          go_wp2
          go_roundg (gk - 1)
          case measure => omega
          case rel =>
            refine ⟨i + 1, by go_num, by omega, ?_, unhide HB, unhide HW⟩
            rw [unhide HF, unhide HD]; exact find_miss (fun x : ByteArray × Int => oldB x.1 s) _ _ (unhide HQ)
    · obtain rfl : i = 106 := by omega
      have HO2 : Hid (olds.find? (fun x => oldB x.1 s) = none) := hide (by rw [unhide HF, ← unhide HLO, List.drop_length]; rfl)
      clear hb
      go_wp2_with (go_at_call 23; refine (unhide HN _).mono ?_; rintro e w2 ⟨rfl, hb2, hw2⟩; have HW2 := hide ((unhide HW).trans (hw2.mono (unhide HW).size)); clear hw2)
      generalize wr.heap.size = nb at hb2 ⊢
      go_loopg [6] 141 (fun k s6 wx => ∃ i : Nat, s6 = .int .i64 i ∧ i + k = 141 ∧ news.find? (fun x => newB x.1 s) = (news.drop i).find? (fun x => newB x.1 s) ∧ wx.heap[nb]? = some (.cells (tcells news) 41 (0, 0)) ∧ Below w.heap.size w wx)
      case atStart => exact ⟨0, rfl, by omega, by rw [List.drop_zero], hb2, unhide HW2⟩
      case round =>
        clear hb2 HW2 HF HW
        obtain ⟨i, rfl, hik, hf, hb, hw⟩ := hrel
        have HF := hide hf
        have HW := hide hw
        clear hf hw
        by_cases hi : i < 141
        · have hiz : (i : Int) < 141 := by omega
          obtain ⟨x, hx⟩ : ∃ x, news[i]? = some x := ⟨_, List.getElem?_eq_getElem (by rw [unhide HLN]; exact hi)⟩
          have HD := hide (drop_cons news i x hx)
          have hsz := news_size x (List.mem_of_getElem? hx)
          have c0 := cell_of hb (tcells_two news i x hx).1
          have c1 := cell_of hb (tcells_two news i x hx).2
          have HB := hide hb
          obtain ⟨t, p⟩ := x
          simp only [] at c0 c1 hsz
          have hszz : (t.size : Int) ≤ 9 := by omega
          clear hsz hx hb
          cases h2 : s.toList == (t ++ ⟨#[59]⟩).toList with
          | true =>
            have HQ : Hid (newB t s = true) := hide (by unfold newB; rw [h2])
            go_wp2
            go_ret2
            have e : refM s = some [p] := by unfold refM; rw [unhide HO2, unhide HF, unhide HD, find_hit (fun x : ByteArray × Int => newB x.1 s) (t, p) _ (unhide HQ)]
            rw [e]
            exact ⟨_, rfl, .inr ⟨_, rfl, new_block _ _⟩, (unhide HW).alloc (unhide HW).size _⟩
          | false =>
            have HQ : Hid (newB t s = false) := hide (by unfold newB; rw [h2])
            go_wp2
            go_roundg (gk - 1)
            case measure => omega
            case rel =>
              refine ⟨i + 1, by go_num, by omega, ?_, unhide HB, unhide HW⟩
              rw [unhide HF, unhide HD]; exact find_miss (fun x : ByteArray × Int => newB x.1 s) _ _ (unhide HQ)
        · obtain rfl : i = 141 := by omega
          have HN2 : Hid (news.find? (fun x => newB x.1 s) = none) := hide (by rw [unhide HF, ← unhide HLN, List.drop_length]; rfl)
          clear hb
          go_wp2_with (go_at_call 24; refine (unhide HT _).mono ?_; rintro e w3 ⟨v, rfl, hv, hw3⟩)
          go_ret2
          have e : refM s = twoM s.toList := by unfold refM; rw [unhide HO2, unhide HN2]
          rw [e]
          exact ⟨_, rfl, hv, (unhide HW).trans (hw3.mono (unhide HW).size)⟩
end Go.Proofs.Ytdhknaiggnafnaa
