/-
  Package entity's Find: what it answers, and that it does.
-/
import Derived.Test.YtdhknaiggnafnaaTi
namespace Go.Proofs.Ytdhknaiggnafnaa
open Go.RowKit Go.Lib

/-- The names that a text could be one of; what Find answers. -/
def tabL : List UInt8 → List (ByteArray × Int)
  | [] => []
  | x :: _ => tabOf x.toNat
def findM (s : ByteArray) : Option (List Int) := ((tabL s.data.toList).find? (fun x => isB x.1 s)).map ptsOf

theorem tabOf_sizes : ∀ b : Fin 256, ((tabOf b.val).all fun x => decide (1 ≤ x.1.size) && decide (x.1.size ≤ 9)) = true := by decide +kernel
theorem tabL_sizes (l : List UInt8) (x : ByteArray × Int) (h : x ∈ tabL l) : 1 ≤ x.1.size ∧ x.1.size ≤ 9 := by
  cases l with
  | nil => cases h
  | cons c l =>
    have := List.all_eq_true.1 (tabOf_sizes ⟨c.toNat, c.toNat_lt⟩) x h
    simpa using this

theorem alike_any (s : ByteArray) (w : World) : Calls Try.prog 19 #[.string s] w (TabPost w (tabL s.data.toList)) := by
  by_cases hs : 0 < s.size
  · have := alike_at s w hs
    have e : s.data.toList = (s[0]'hs) :: s.data.toList.drop 1 := by
      have := Lib.data_getElem? s 0 hs
      obtain ⟨h1, h2⟩ := List.getElem?_eq_some_iff.1 this
      rw [← h2]
      exact (List.drop_eq_getElem_cons h1)
    rw [e]
    exact this
  · have : s = ⟨#[]⟩ := by
      have h0 := len_data s
      have h1 : s.data.toList.length = 0 := by omega
      obtain ⟨⟨l⟩⟩ := s
      have h2 : l = [] := List.length_eq_zero_iff.1 h1
      rw [h2]
    subst this
    exact alike_none w

theorem tcells_two (T : List (ByteArray × Int)) (i : Nat) (x : ByteArray × Int) (h : T[i]? = some x) : (tcells T)[i * 2]? = some (.string x.1) ∧ (tcells T)[i * 2 + 1]? = some (.int .i32 x.2) := by
  unfold tcells
  simp only [List.getElem?_toArray]
  induction T generalizing i with
  | nil => simp at h
  | cons y T ih =>
    cases i with
    | zero => simp at h; subst h; simp [cells2]
    | succ i =>
      have := ih i (by simpa using h)
      have e : (y :: T).flatMap cells2 = cells2 y ++ T.flatMap cells2 := rfl
      have hl : (cells2 y).length = 2 := rfl
      rw [e, List.getElem?_append_right (by rw [hl]; omega), List.getElem?_append_right (by rw [hl]; omega), hl, show (i + 1) * 2 - 2 = i * 2 by omega, show (i + 1) * 2 + 1 - 2 = i * 2 + 1 by omega]
      exact this

theorem drop_cons {α : Type} (l : List α) (i : Nat) (x : α) (h : l[i]? = some x) : l.drop i = x :: l.drop (i + 1) := by
  obtain ⟨h1, h2⟩ := List.getElem?_eq_some_iff.1 h
  rw [← h2]
  exact List.drop_eq_getElem_cons h1

theorem find_hit {α : Type} (p : α → Bool) (x : α) (l : List α) (h : p x = true) : (x :: l).find? p = some x := by simp [h]
theorem find_miss {α : Type} (p : α → Bool) (x : α) (l : List α) (h : p x = false) : (x :: l).find? p = l.find? p := by simp [h]

set_option maxHeartbeats 1000000 in
theorem find_tab (s : ByteArray) (T : List (ByteArray × Int)) (hT : ∀ x ∈ T, 1 ≤ x.1.size ∧ x.1.size ≤ 9) (hl : T.length ≤ 1000) (w : World) (HC : ∀ w, Calls Try.prog 19 #[.string s] w (TabPost w T)) :
    Calls Try.prog 9 #[.string s] w fun e w' => ∃ v, e = .returned (.tuple #[v, .bool ((T.find? (fun x => isB x.1 s)).map ptsOf).isSome]) ∧ RunesAt w' (((T.find? (fun x => isB x.1 s)).map ptsOf).getD []) v ∧ Below w.heap.size w w' := by
  by_cases hne : T = []
  · subst hne
    have HC' : Hid (∀ w, Calls Try.prog 19 #[.string s] w fun e w' => e = .returned (.slice none 0 0) ∧ Below w.heap.size w w') := hide (fun w => (HC w).mono (by
      rintro e w' ⟨v, rfl, hv, hw⟩
      rcases hv with ⟨_, rfl⟩ | ⟨b, hn, _⟩
      · exact ⟨rfl, hw⟩
      · exact absurd rfl hn))
    clear HC hT
    go_enter Try.func9, Try.ntmps9
    go_wp2_with (go_at_call 19; refine (unhide HC' _).mono ?_; rintro e w' ⟨rfl, hw⟩)
    go_loopg [9] 1 (fun _ s9 wx => s9 = .int .i64 0 ∧ Below w.heap.size w wx)
    case atStart => exact ⟨rfl, hw⟩
    case round =>
      obtain ⟨rfl, hb⟩ := hrel
      go_wp2
      go_ret2
      exact ⟨_, rfl, .inl ⟨rfl, rfl⟩, hb⟩
  · have HC' : Hid (∀ w, Calls Try.prog 19 #[.string s] w fun e w' => ∃ b, e = .returned (.slice (some ⟨b, 0, none⟩) T.length T.length) ∧ w'.heap[b]? = some (.cells (tcells T) 36 (0, 0)) ∧ Below w.heap.size w w') := hide (fun w => (HC w).mono (by
      rintro e w' ⟨v, rfl, hv, hw⟩
      rcases hv with ⟨h, _⟩ | ⟨b, _, rfl, hb⟩
      · exact absurd h hne
      · exact ⟨b, rfl, hb, hw⟩))
    have HT := hide hT
    have hlz : (T.length : Int) ≤ 1000 := by omega
    clear HC hT hne hl
    go_enter Try.func9, Try.ntmps9
    go_wp2_with (go_at_call 19; refine (unhide HC' _).mono ?_; rintro e w1 ⟨b, rfl, hb, hw⟩)
    go_loopg [9] T.length (fun k s9 wx => ∃ i : Nat, s9 = .int .i64 i ∧ i + k = T.length ∧ T.find? (fun x => isB x.1 s) = (T.drop i).find? (fun x => isB x.1 s) ∧ wx.heap[b]? = some (.cells (tcells T) 36 (0, 0)) ∧ Below w.heap.size w wx)
    case atStart => exact ⟨0, rfl, by omega, by rw [List.drop_zero], hb, hw⟩
    case round =>
      clear hb hw
      obtain ⟨i, rfl, hik, hf, hb, hw⟩ := hrel
      have HF := hide hf
      have HW := hide hw
      clear hf hw
      by_cases hi : i < T.length
      · have hiz : (i : Int) < (T.length : Int) := by omega
        obtain ⟨x, hx⟩ : ∃ x, T[i]? = some x := ⟨_, List.getElem?_eq_getElem hi⟩
        have HD := hide (drop_cons T i x hx)
        have hsz := (unhide HT) x (List.mem_of_getElem? hx)
        have c0 := cell_of hb (tcells_two T i x hx).1
        have c1 := cell_of hb (tcells_two T i x hx).2
        have HB := hide hb
        obtain ⟨t, p⟩ := x
        simp only [] at c0 c1 hsz
        cases hq : isB t s with
        | true =>
          have HQ := hide hq
          have HI := hide (fun w => by have := is_at t s p w hsz.1 (by omega); rw [hq] at this; exact this)
          have HP := hide (fun w => points_at t p w)
          clear hq hsz hx hb
          go_wp2_with (first | (go_at_call 20; refine (unhide HI _).mono ?_; rintro e w2 ⟨rfl, hw2⟩; have d0 := cell_of (o := 0) (kept_block hw2) rfl; have d1 := cell_of (o := 1) (kept_block hw2) rfl; have HW2 := hide (below_boxed hw2); clear hw2) | (go_at_call 21; refine (unhide HP _).mono ?_; rintro e w3 ⟨v, rfl, hv, hw3⟩))
          go_ret2
          have e : T.find? (fun x => isB x.1 s) = some (t, p) := by rw [unhide HF, unhide HD]; exact find_hit (fun x : ByteArray × Int => isB x.1 s) _ _ (unhide HQ)
          rw [e]
          exact ⟨_, rfl, hv, (unhide HW).trans (((unhide HW2).trans (hw3.mono (unhide HW2).size)).mono (unhide HW).size)⟩
        | false =>
          have HQ := hide hq
          have HI := hide (fun w => by have := is_at t s p w hsz.1 (by omega); rw [hq] at this; exact this)
          clear hq hsz hx hb
          go_wp2_with (go_at_call 20; refine (unhide HI _).mono ?_; rintro e w2 ⟨rfl, hw2⟩)
          go_roundg (gk - 1)
          case measure => omega
          case rel =>
            refine ⟨i + 1, by go_num, by omega, ?_, ((below_boxed hw2).block b (lt_of_block (unhide HB))).trans (unhide HB), (unhide HW).trans ((below_boxed hw2).mono (unhide HW).size)⟩
            rw [unhide HF, unhide HD]; exact find_miss (fun x : ByteArray × Int => isB x.1 s) _ _ (unhide HQ)
      · obtain rfl : i = T.length := by omega
        have hiz : ¬ (T.length : Int) < (T.length : Int) := by omega
        go_wp2
        go_ret2
        have e : T.find? (fun x => isB x.1 s) = none := by rw [unhide HF, List.drop_length]; rfl
        rw [e]
        exact ⟨_, rfl, .inl ⟨rfl, rfl⟩, unhide HW⟩

theorem tabOf_short : ∀ b : Fin 256, (tabOf b.val).length ≤ 1000 := by decide +kernel
theorem tabL_short (l : List UInt8) : (tabL l).length ≤ 1000 := by
  cases l with
  | nil => exact Nat.zero_le _
  | cons c l => exact tabOf_short ⟨c.toNat, c.toNat_lt⟩

def FindPost (m : Option (List Int)) (w : World) (e : Ending) (w' : World) : Prop := ∃ v, e = .returned (.tuple #[v, .bool m.isSome]) ∧ RunesAt w' (m.getD []) v ∧ Below w.heap.size w w'
theorem find_any (s : ByteArray) (w : World) : Calls Try.prog 9 #[.string s] w (FindPost (findM s) w) :=
  find_tab s (tabL s.data.toList) (fun x hx => tabL_sizes _ x hx) (tabL_short _) w (fun w => alike_any s w)
end Go.Proofs.Ytdhknaiggnafnaa
