/-
  Package entity's Begins and the document's: what they answer, and that they do.
-/
import Derived.Test.YtdhknaiggnafnaaTm
import Derived.Deep.AppendLies
import Derived.OwnWalk
namespace Go.Proofs.Ytdhknaiggnafnaa
open Go.RowKit Go.Lib

theorem any_hit {α : Type} (p : α → Bool) (x : α) (l : List α) (h : p x = true) : (x :: l).any p = true := by simp [h]
theorem any_miss {α : Type} (p : α → Bool) (x : α) (l : List α) (h : p x = false) : (x :: l).any p = l.any p := by simp [h]

def begM (s : ByteArray) : Bool := s.toList == [] || (tabL s.data.toList).any (fun x => begB x.1 s)

set_option maxHeartbeats 1000000 in
theorem begins_tab (s : ByteArray) (hne0 : (s.toList == []) = false) (T : List (ByteArray × Int)) (hT : ∀ x ∈ T, 1 ≤ x.1.size ∧ x.1.size ≤ 9) (hl : T.length ≤ 1000) (w : World) (HC : ∀ w, Calls Try.prog 19 #[.string s] w (TabPost w T)) :
    Calls Try.prog 15 #[.string s] w fun e w' => e = .returned (.bool (T.any (fun x => begB x.1 s))) ∧ Below w.heap.size w w' := by
  by_cases hne : T = []
  · subst hne
    have HC' : Hid (∀ w, Calls Try.prog 19 #[.string s] w fun e w' => e = .returned (.slice none 0 0) ∧ Below w.heap.size w w') := hide (fun w => (HC w).mono (by
      rintro e w' ⟨v, rfl, hv, hw⟩
      rcases hv with ⟨_, rfl⟩ | ⟨b, hn, _⟩
      · exact ⟨rfl, hw⟩
      · exact absurd rfl hn))
    clear HC hT
    go_enter Try.func15, Try.ntmps15
    go_wp2_with (go_at_call 19; refine (unhide HC' _).mono ?_; rintro e w' ⟨rfl, hw⟩)
    go_loopg [10] 1 (fun _ s9 wx => s9 = .int .i64 0 ∧ Below w.heap.size w wx)
    case atStart => exact ⟨rfl, hw⟩
    case round =>
      obtain ⟨rfl, hb⟩ := hrel
      go_wp2
      go_ret
      exact ⟨rfl, hb⟩
  · have HC' : Hid (∀ w, Calls Try.prog 19 #[.string s] w fun e w' => ∃ b, e = .returned (.slice (some ⟨b, 0, none⟩) T.length T.length) ∧ w'.heap[b]? = some (.cells (tcells T) 36 (0, 0)) ∧ Below w.heap.size w w') := hide (fun w => (HC w).mono (by
      rintro e w' ⟨v, rfl, hv, hw⟩
      rcases hv with ⟨h, _⟩ | ⟨b, _, rfl, hb⟩
      · exact absurd h hne
      · exact ⟨b, rfl, hb, hw⟩))
    have HT := hide hT
    have hlz : (T.length : Int) ≤ 1000 := by omega
    clear HC hT hne hl
    go_enter Try.func15, Try.ntmps15
    go_wp2_with (go_at_call 19; refine (unhide HC' _).mono ?_; rintro e w1 ⟨b, rfl, hb, hw⟩)
    go_loopg [10] T.length (fun k s9 wx => ∃ i : Nat, s9 = .int .i64 i ∧ i + k = T.length ∧ T.any (fun x => begB x.1 s) = (T.drop i).any (fun x => begB x.1 s) ∧ wx.heap[b]? = some (.cells (tcells T) 36 (0, 0)) ∧ Below w.heap.size w wx)
    case atStart => exact ⟨0, rfl, by omega, by rw [List.drop_zero], hb, hw⟩
    case round =>
      clear hb hw
      obtain ⟨i, rfl, hik, hf, hb, hw⟩ := hrel
      have HF := hide hf
      have HW := hide hw
      clear hf hw
      by_cases hi : i < T.length
      · have hiz : (i : Int) < (T.length : Int) := by omega
        obtain ⟨x, hx⟩ : ∃ x, T[i]? = some x := ⟨_, List.getElem?_eq_getElem hi⟩
        have HD := hide (drop_cons T i x hx)
        have hsz := (unhide HT) x (List.mem_of_getElem? hx)
        have c0 := cell_of hb (tcells_two T i x hx).1
        have c1 := cell_of hb (tcells_two T i x hx).2
        have HB := hide hb
        obtain ⟨t, p⟩ := x
        simp only [] at c0 c1 hsz
        cases hq : begB t s with
        | true =>
          have HQ := hide hq
          have HI := hide (fun w => by have := begins_at t s p w hsz.1 (by omega); rw [hq] at this; exact this)
          clear hq hsz hx hb
          go_wp2_with (go_at_call 26; refine (unhide HI _).mono ?_; rintro e w2 ⟨rfl, hw2⟩)
          go_ret
          have e : T.any (fun x => begB x.1 s) = true := by rw [unhide HF, unhide HD]; exact any_hit (fun x : ByteArray × Int => begB x.1 s) _ _ (unhide HQ)
          rw [e]
          exact ⟨rfl, (unhide HW).trans ((below_boxed hw2).mono (unhide HW).size)⟩
        | false =>
          have HQ := hide hq
          have HI := hide (fun w => by have := begins_at t s p w hsz.1 (by omega); rw [hq] at this; exact this)
          clear hq hsz hx hb
          go_wp2_with (go_at_call 26; refine (unhide HI _).mono ?_; rintro e w2 ⟨rfl, hw2⟩)
          go_roundg (gk - 1)
          case measure => omega
          case rel =>
            refine ⟨i + 1, by go_num, by omega, ?_, ((below_boxed hw2).block b (lt_of_block (unhide HB))).trans (unhide HB), (unhide HW).trans ((below_boxed hw2).mono (unhide HW).size)⟩
            rw [unhide HF, unhide HD]; exact any_miss (fun x : ByteArray × Int => begB x.1 s) _ _ (unhide HQ)
      · obtain rfl : i = T.length := by omega
        have hiz : ¬ (T.length : Int) < (T.length : Int) := by omega
        go_wp2
        go_ret
        have e : T.any (fun x => begB x.1 s) = false := by rw [unhide HF, List.drop_length]; rfl
        rw [e]
        exact ⟨rfl, unhide HW⟩

theorem begins_any (s : ByteArray) (w : World) : Calls Try.prog 15 #[.string s] w fun e w' => e = .returned (.bool (begM s)) ∧ Below w.heap.size w w' := by
  cases h : s.toList == [] with
  | true =>
    have HE : Hid (begM s = true) := hide (by unfold begM; rw [h]; rfl)
    go_enter Try.func15, Try.ntmps15
    go_wp2
    go_ret
    exact ⟨by rw [unhide HE]; rfl, Below.refl _ _⟩
  | false =>
    have e : begM s = (tabL s.data.toList).any (fun x => begB x.1 s) := by unfold begM; rw [h]; rfl
    rw [e]
    exact begins_tab s h (tabL s.data.toList) (fun x hx => tabL_sizes _ x hx) (tabL_short _) w (fun w => alike_any s w)

def refB (s : ByteArray) : Bool := (olds ++ news).any (fun x => startsB (x.1 ++ ⟨#[59]⟩) s) || (startsB ⟨#[110, 118, 108, 116, 59]⟩ s || startsB ⟨#[98, 110, 101, 59]⟩ s || startsB ⟨#[102, 106, 108, 105, 103, 59]⟩ s || startsB ⟨#[97, 99, 69, 59]⟩ s)

theorem both_len : (olds ++ news).length = 247 := by rw [List.length_append, olds_len, news_len]
theorem tcells_len (T : List (ByteArray × Int)) : (tcells T).toList.length = T.length * 2 := by
  unfold tcells
  induction T with
  | nil => rfl
  | cons x T ih => simp only [List.flatMap_cons, List.length_append, List.length_cons]; simp only [] at ih; rw [ih]; show 2 + _ = _; omega
theorem tcells_one (T : List (ByteArray × Int)) (u : Value) (h : u ∈ (tcells T).toList) : u.oneCell' = true := by
  unfold tcells at h
  obtain ⟨x, _, hx⟩ := List.mem_flatMap.1 h
  simp only [cells2, List.mem_cons, List.not_mem_nil, or_false] at hx
  rcases hx with rfl | rfl <;> rfl
theorem info41 : (Try.prog.info? 41).map (fun i => (i.zero, i.size, i.bytes)) = some (some (.agg #[.string ⟨#[]⟩, .int .i32 0]), 2, 24) := by kernel_rfl

theorem tcells_both (A B : List (ByteArray × Int)) : (tcells A).toList ++ (tcells B).toList = (tcells (A ++ B)).toList := by simp [tcells]
theorem own_cells {w : World} {base n g cap : Nat} {T : List (ByteArray × Int)} (h : w.ownsRow base 41 2 (.slice (some ⟨g, 0, none⟩) n cap) n (tcells T).toList) : ∀ j u, (tcells T)[j]? = some u → w.cell? ⟨g, j, none⟩ = some u := by
  obtain ⟨hl, h | ⟨g', cap', cur, he, hb, hh, hnc, hcm, hcs, ht⟩⟩ := h
  · cases h.1
  · cases he
    intro j u hu
    refine cell_of hh ?_
    rw [← Array.getElem?_toList] at hu ⊢
    rw [← ht, List.getElem?_take] at hu
    split at hu
    · exact hu
    · cases hu
theorem four_cases (a b c : Bool) : a = true ∨ (a = false ∧ b = true) ∨ (a = false ∧ b = false ∧ c = true) ∨ (a = false ∧ b = false ∧ c = false) := by
  cases a <;> cases b <;> cases c <;> simp

set_option maxHeartbeats 1000000 in
theorem refBegins_any (s : ByteArray) (w : World) : Calls Try.prog 16 #[.string s] w fun e w' => e = .returned (.bool (refB s)) ∧ Below w.heap.size w w' := by
  have HO : Hid (∀ w, Calls Try.prog 22 #[] w fun e w' => e = .returned (.slice (some ⟨w.heap.size, 0, none⟩) 106 106) ∧ w'.heap[w.heap.size]? = some (.cells (tcells olds) 41 (0, 0)) ∧ Below w.heap.size w w') := hide (fun w => (olds_at w).mono (by
    rintro e w' ⟨rfl, rfl⟩; exact ⟨rfl, new_block _ _, (Below.refl _ _).alloc (Nat.le_refl _) _⟩))
  have HN : Hid (∀ w, Calls Try.prog 23 #[] w fun e w' => e = .returned (.slice (some ⟨w.heap.size, 0, none⟩) 141 141) ∧ w'.heap[w.heap.size]? = some (.cells (tcells news) 41 (0, 0)) ∧ Below w.heap.size w w') := hide (fun w => (news_at w).mono (by
    rintro e w' ⟨rfl, rfl⟩; exact ⟨rfl, new_block _ _, (Below.refl _ _).alloc (Nat.le_refl _) _⟩))
  obtain ⟨i0, hi0, hz0, hz1, hz2⟩ := info_parts info41
  go_enter Try.func16, Try.ntmps16
  go_wp2_with (first
    | (go_at_call 22; refine (unhide HO _).mono ?_; rintro e w1 ⟨rfl, hb1, hw1⟩; have HB1 := hide hb1; have HW1 := hide hw1; clear hb1 hw1)
    | (go_at_call 23; refine (unhide HN _).mono ?_; rintro e w2 ⟨rfl, hb2, hw2⟩; have HB2 := hide hb2; have HO2 : Hid (w2.heap[w.heap.size]? = some (.cells (tcells olds) 41 (0, 0))) := hide ((hw2.block _ (lt_of_block (unhide HB1))).trans (unhide HB1)); have HW2 := hide ((unhide HW1).trans (hw2.mono (unhide HW1).size)); clear hb2 hw2)
    | (at_builtin; go_must (refine wpList_append_lies _ (by rfl) _ _ 38 (by rfl) w.heap.size 41 i0 _ 2 24 Try.underlying38 hi0 hz0 hz1 hz2 rfl (by omega) (.slice (some ⟨w.heap.size, 0, none⟩) 106 106) 106 (tcells olds).toList (by rfl) ⟨by rw [tcells_len, olds_len], .inr ⟨w.heap.size, 106, tcells olds, rfl, Nat.le_refl _, unhide HO2, by omega, by decide, by rw [← Array.length_toList, tcells_len, olds_len], List.take_of_length_le (by rw [tcells_len, olds_len]; omega)⟩⟩ ⟨w1.heap.size, 0, none⟩ 141 141 (tcells news).toList (by rfl) (by rw [tcells_len, news_len]) (World.news_of_block (unhide HB2)) (tcells_one news) (by omega) (by decide) (by decide) (unhide HW2).size w2.heap.size rfl ?_); intro g cap w3 hown hgrow hat hlt))
  have HC : Hid (∀ j u, (tcells (olds ++ news))[j]? = some u → w3.cell? ⟨g, j, none⟩ = some u) := hide (by rw [tcells_both] at hown; exact own_cells hown)
  have HW3 : Hid (Below w.heap.size w w3) := hide ((unhide HW2).grown hgrow (unhide HW2).size (fun k hk => by cases hk; exact Nat.le_refl _))
  have HL := hide both_len
  clear hown hgrow hat hlt hi0 hz0 hz1 hz2
  go_loopg [4] 247 (fun k s4 wx => ∃ i : Nat, s4 = .int .i64 i ∧ i + k = 247 ∧ (olds ++ news).any (fun x => startsB (x.1 ++ ⟨#[59]⟩) s) = ((olds ++ news).drop i).any (fun x => startsB (x.1 ++ ⟨#[59]⟩) s) ∧ wx = w3)
  case atStart => exact ⟨0, rfl, by omega, by rw [List.drop_zero], rfl⟩
  case round =>
    obtain ⟨i, rfl, hik, hf, rfl⟩ := hrel
    have HF := hide hf
    clear hf
    by_cases hi : i < 247
    · have hiz : (i : Int) < 247 := by omega
      obtain ⟨x, hx⟩ : ∃ x, (olds ++ news)[i]? = some x := ⟨_, List.getElem?_eq_getElem (by rw [unhide HL]; exact hi)⟩
      have HD := hide (drop_cons (olds ++ news) i x hx)
      have hsz : x.1.size ≤ 9 := by
        rcases List.mem_append.1 (List.mem_of_getElem? hx) with h | h
        · exact olds_size x h
        · exact news_size x h
      have c0 := (unhide HC) _ _ (tcells_two (olds ++ news) i x hx).1
      obtain ⟨t, p⟩ := x
      simp only [] at c0 hsz
      have hszz : (t.size : Int) ≤ 9 := by omega
      clear hsz hx
      cases hq : startsB (t ++ ⟨#[59]⟩) s with
      | true =>
        have HQ := hide hq
        have HI := hide (fun w => by have := starts_at (t ++ ⟨#[59]⟩) s w; rw [hq] at this; exact this)
        clear hq
        go_wp2_with (go_at_call 27; refine (unhide HI _).mono ?_; rintro e w4 ⟨rfl, rfl⟩)
        go_ret
        have e : refB s = true := by
          unfold refB
          rw [unhide HF, unhide HD, any_hit (fun x : ByteArray × Int => startsB (x.1 ++ ⟨#[59]⟩) s) (t, p) _ (unhide HQ)]; rfl
        rw [e]
        exact ⟨rfl, unhide HW3⟩
      | false =>
        have HQ := hide hq
        have HI := hide (fun w => by have := starts_at (t ++ ⟨#[59]⟩) s w; rw [hq] at this; exact this)
        clear hq
        go_wp2_with (go_at_call 27; refine (unhide HI _).mono ?_; rintro e w4 ⟨rfl, rfl⟩)
        go_roundg (gk - 1)
        case measure => omega
        case rel =>
          refine ⟨i + 1, by go_num, by omega, ?_, rfl⟩
          rw [unhide HF, unhide HD]; exact any_miss (fun x : ByteArray × Int => startsB (x.1 ++ ⟨#[59]⟩) s) (t, p) _ (unhide HQ)
    · obtain rfl : i = 247 := by omega
      have HA : Hid ((olds ++ news).any (fun x => startsB (x.1 ++ ⟨#[59]⟩) s) = false) := hide (by rw [unhide HF, ← unhide HL, List.drop_length]; rfl)
      have HR : Hid (refB s = (startsB ⟨#[110, 118, 108, 116, 59]⟩ s || startsB ⟨#[98, 110, 101, 59]⟩ s || startsB ⟨#[102, 106, 108, 105, 103, 59]⟩ s || startsB ⟨#[97, 99, 69, 59]⟩ s)) := hide (by unfold refB; rw [unhide HA]; rfl)
      clear HF
      rcases four_cases (startsB ⟨#[110, 118, 108, 116, 59]⟩ s) (startsB ⟨#[98, 110, 101, 59]⟩ s) (startsB ⟨#[102, 106, 108, 105, 103, 59]⟩ s) with h1 | ⟨h1, h2⟩ | ⟨h1, h2, h3⟩ | ⟨h1, h2, h3⟩
      · have HE : Hid (refB s = true) := hide (by rw [unhide HR, h1]; rfl)
        go_wp2_with (go_at_call 27; refine (starts_at _ _ _).mono ?_; rintro e w4 ⟨rfl, rfl⟩; try simp only [h1])
        go_ret
        rw [unhide HE]
        exact ⟨rfl, unhide HW3⟩
      · have HE : Hid (refB s = true) := hide (by rw [unhide HR, h1, h2]; rfl)
        go_wp2_with (go_at_call 27; refine (starts_at _ _ _).mono ?_; rintro e w4 ⟨rfl, rfl⟩; try simp only [h1, h2])
        go_ret
        rw [unhide HE]
        exact ⟨rfl, unhide HW3⟩
      · have HE : Hid (refB s = true) := hide (by rw [unhide HR, h1, h2, h3]; rfl)
        go_wp2_with (go_at_call 27; refine (starts_at _ _ _).mono ?_; rintro e w4 ⟨rfl, rfl⟩; try simp only [h1, h2, h3])
        go_ret
        rw [unhide HE]
        exact ⟨rfl, unhide HW3⟩
      · have HE : Hid (refB s = startsB ⟨#[97, 99, 69, 59]⟩ s) := hide (by rw [unhide HR, h1, h2, h3]; rfl)
        go_wp2_with (go_at_call 27; refine (starts_at _ _ _).mono ?_; rintro e w4 ⟨rfl, rfl⟩; try simp only [h1, h2, h3])
        go_ret
        rw [unhide HE]
        exact ⟨rfl, unhide HW3⟩
end Go.Proofs.Ytdhknaiggnafnaa
