/-
  Package entity's Longest: what it answers, and that it does.
-/
import Derived.Test.YtdhknaiggnafnaaTv
import Derived.Test.YtdhknaiggnafnaaTm
import Derived.Deep.RegionHeld3
namespace Go.Proofs.Ytdhknaiggnafnaa
open Go.RowKit Go.Lib

/-- From n bytes of the text down: the first beginning that is a name's text. -/
def longF (T : List (ByteArray × Int)) (s : ByteArray) : Nat → Option (Nat × (ByteArray × Int))
  | 0 => none
  | n + 1 => match T.find? (fun x => isB x.1 (s.extract 0 (n + 1))) with
    | some x => some (n + 1, x)
    | none => longF T s n
def longT (s : ByteArray) (m : Option (Nat × (ByteArray × Int))) : ByteArray := match m with | some x => s.extract 0 x.1 | none => ⟨#[]⟩
def longP (m : Option (Nat × (ByteArray × Int))) : List Int := match m with | some x => ptsOf x.2 | none => []

def TabG (w : World) (T : List (ByteArray × Int)) (g : Option Addr) : Prop := T ≠ [] → ∃ b, g = some ⟨b, 0, none⟩ ∧ w.heap[b]? = some (.cells (tcells T) 36 (0, 0))
theorem TabG.keep {w w' : World} {T : List (ByteArray × Int)} {g : Option Addr} (h : TabG w T g) (hw : Below w.heap.size w w') : TabG w' T g := by
  intro hn
  obtain ⟨b, e, hb⟩ := h hn
  exact ⟨b, e, (hw.block b (lt_of_block hb)).trans hb⟩

set_option maxHeartbeats 1000000 in
theorem longest_tab (s : ByteArray) (T : List (ByteArray × Int)) (hT : ∀ x ∈ T, 1 ≤ x.1.size ∧ x.1.size ≤ 9) (hl : T.length ≤ 1000) (w : World) (HC : ∀ w, Calls Try.prog 19 #[.string s] w (TabPost w T)) :
    Calls Try.prog 13 #[.string s] w fun e w' => ∃ v, e = .returned (.tuple #[.string (longT s (longF T s (min s.size 9))), v]) ∧ RunesAt w' (longP (longF T s (min s.size 9))) v ∧ Below w.heap.size w w' := by
  have HC' : Hid (∀ w, Calls Try.prog 19 #[.string s] w fun e w' => ∃ g, e = .returned (.slice g T.length T.length) ∧ TabG w' T g ∧ Below w.heap.size w w') := hide (fun w => (HC w).mono (by
      rintro e w' ⟨v, rfl, hv, hw⟩
      rcases hv with ⟨rfl, rfl⟩ | ⟨b, _, rfl, hb⟩
      · exact ⟨_, rfl, fun h => absurd rfl h, hw⟩
      · exact ⟨_, rfl, fun _ => ⟨b, rfl, hb⟩, hw⟩))
  have HT := hide hT
  have hlz : (T.length : Int) ≤ 1000 := by omega
  clear HC hT hl
  obtain ⟨n0, hn0⟩ : ∃ n0 : Nat, min s.size 9 = n0 := ⟨_, rfl⟩
  have hn1 : min (s.size : Int) 9 = (n0 : Int) := by omega
  have hn9 : (n0 : Int) ≤ 9 := by omega
  have hns : (n0 : Int) ≤ (s.size : Int) := by omega
  rw [hn0]
  clear hn0
  go_enter Try.func13, Try.ntmps13
  go_wp2
  go_step3
  go_wp2_with (go_at_call 19; refine (unhide HC' _).mono ?_; rintro e w1 ⟨g, rfl, hg, hw1⟩; have HG := hide hg; have HW1 := hide hw1; clear hg hw1)
  go_step3
  go_wp2
  go_loopg [4, 5, 7] n0 (fun k s4 s5 s7 wx => ∃ n : Nat, s4 = .string ⟨#[]⟩ ∧ s5 = .slice none 0 0 ∧ s7 = .int .i64 n ∧ n = k ∧ n ≤ n0 ∧ longF T s n0 = longF T s n ∧ TabG wx T g ∧ Below w.heap.size w wx)
  case atStart => exact ⟨n0, rfl, rfl, rfl, rfl, Nat.le_refl _, rfl, unhide HG, unhide HW1⟩
  case round =>
    clear HG HW1
    obtain ⟨n, rfl, rfl, rfl, hnk, hnn, hlong, hg, hw⟩ := hrel
    subst hnk
    have HLO := hide hlong
    have HG := hide hg
    have HW := hide hw
    clear hlong hg hw
    by_cases hn : 0 < n
    · have hnz : (0 : Int) < (n : Int) := by omega
      have hns2 : (n : Int) ≤ (s.size : Int) := by omega
      obtain ⟨m, hm⟩ : ∃ m, n = m + 1 := ⟨n - 1, by omega⟩
      have HM := hide hm
      clear hm
      go_wp2
      go_loopg [4, 5, 21] T.length (fun k s4 s5 s21 wx => ∃ i : Nat, s4 = .string ⟨#[]⟩ ∧ s5 = .slice none 0 0 ∧ s21 = .int .i64 i ∧ i + k = T.length ∧ T.find? (fun x => isB x.1 (s.extract 0 n)) = (T.drop i).find? (fun x => isB x.1 (s.extract 0 n)) ∧ TabG wx T g ∧ Below w.heap.size w wx)
      case atStart => exact ⟨0, rfl, rfl, rfl, by omega, by rw [List.drop_zero], unhide HG, unhide HW⟩
      case round =>
        clear HG HW
        obtain ⟨i, rfl, rfl, rfl, hik, hf, hg, hw⟩ := hrel
        have HF := hide hf
        have HG := hide hg
        have HW := hide hw
        clear hf hg hw
        by_cases hi : i < T.length
        · have hiz : (i : Int) < (T.length : Int) := by omega
          obtain ⟨x, hx⟩ : ∃ x, T[i]? = some x := ⟨_, List.getElem?_eq_getElem hi⟩
          have HD := hide (drop_cons T i x hx)
          have hsz := (unhide HT) x (List.mem_of_getElem? hx)
          obtain ⟨b, rfl, hb⟩ := (unhide HG) (fun h => by rw [h] at hi; exact absurd hi (Nat.not_lt_zero _))
          have c0 := cell_of hb (tcells_two T i x hx).1
          have c1 := cell_of hb (tcells_two T i x hx).2
          obtain ⟨t, p⟩ := x
          simp only [] at c0 c1 hsz
          have HGB : Hid (wr.heap[b]? = some (.cells (tcells T) 36 (0, 0))) := hide hb
          have HHI := hide hi
          clear hx hb HG hi
          cases hq : isB t (s.extract 0 n) with
          | true =>
            have HQ := hide hq
            have HI := hide (fun w => by have := is_at t (s.extract 0 n) p w hsz.1 (by omega); rw [hq] at this; exact this)
            have HP := hide (fun w => points_at t p w)
            have HCL := hide (fun w => clone_any (s.extract 0 n) w (by rw [ByteArray.size_extract]; omega))
            clear hq hsz
            go_wp2
            have hbox := new_block wr (.cells #[.string t, .int .i32 p] 36)
            have HWB : Hid (Below w.heap.size w (wr.alloc (.cells #[.string t, .int .i32 p] 36))) := hide ((unhide HW).alloc (unhide HW).size _)
            generalize wr.alloc (.cells #[.string t, .int .i32 p] 36) = wb at hbox HWB ⊢
            generalize wr.heap.size = nb at hbox ⊢
            have HBX := hide hbox
            have D0 := hide (cell_of (o := 0) (v := .string t) hbox rfl)
            have D1 := hide (cell_of (o := 1) (v := .int .i32 p) hbox rfl)
            clear hbox
            go_region_held3 (fun w' => w'.cell? ⟨nb, 0, none⟩ = some (.string t) ∧ w'.cell? ⟨nb, 1, none⟩ = some (.int .i32 p)) (first | exact ⟨unhide D0, unhide D1⟩ | exact ⟨unhide E0, unhide E1⟩) (first | (go_at_call 20; refine (unhide HI _).mono ?_; rintro e w2 ⟨rfl, hw2⟩; have HB2 : Hid (w2.heap[nb]? = some (.cells #[.string t, .int .i32 p] 36 (0, 0))) := hide ((hw2.block nb (lt_of_block (unhide HBX))).trans (unhide HBX)); have E0 := hide (cell_of (o := 0) (v := .string t) (unhide HB2) rfl); have E1 := hide (cell_of (o := 1) (v := .int .i32 p) (unhide HB2) rfl); have HW2 : Hid (Below w.heap.size w w2) := hide ((unhide HWB).drew.trans (hw2.mono (unhide HWB).size)); clear hw2))
            all_goals go_wp2
            go_region_held3 (fun w' => w'.cell? ⟨nb, 0, none⟩ = some (.string t) ∧ w'.cell? ⟨nb, 1, none⟩ = some (.int .i32 p)) (first | exact ⟨unhide E0, unhide E1⟩ | exact ⟨unhide F0, unhide F1⟩ | exact ⟨unhide G0, unhide G1⟩) (first
              | (go_at_call 25; refine (unhide HCL _).mono ?_; rintro e w3 ⟨rfl, hw3⟩; have HB3 : Hid (w3.heap[nb]? = some (.cells #[.string t, .int .i32 p] 36 (0, 0))) := hide ((hw3.block nb (lt_of_block (unhide HB2))).trans (unhide HB2)); have F0 := hide (cell_of (o := 0) (v := .string t) (unhide HB3) rfl); have F1 := hide (cell_of (o := 1) (v := .int .i32 p) (unhide HB3) rfl); have HW3 : Hid (Below w.heap.size w w3) := hide ((unhide HW2).drew.trans (hw3.mono (unhide HW2).size)); clear hw3)
              | (go_at_call 21; refine (unhide HP _).mono ?_; rintro e w4 ⟨v, rfl, hv, hw4⟩; have HV := hide hv; have HB4 : Hid (w4.heap[nb]? = some (.cells #[.string t, .int .i32 p] 36 (0, 0))) := hide ((hw4.block nb (lt_of_block (unhide HB3))).trans (unhide HB3)); have G0 := hide (cell_of (o := 0) (v := .string t) (unhide HB4) rfl); have G1 := hide (cell_of (o := 1) (v := .int .i32 p) (unhide HB4) rfl); have HW4 : Hid (Below w.heap.size w w4) := hide ((unhide HW3).trans (hw4.mono (unhide HW3).size)); clear hv hw4))
            go_wp2
            simp only [Exit.noGoto]
            go_ret2
            have e : longF T s n0 = some (n, (t, p)) := by
              have hf : T.find? (fun x => isB x.1 (s.extract 0 n)) = some (t, p) := by rw [unhide HF, unhide HD]; exact find_hit (fun x : ByteArray × Int => isB x.1 (s.extract 0 n)) _ _ (unhide HQ)
              have hm := unhide HM
              rw [hm] at hf
              rw [unhide HLO, hm, longF, hf]
            rw [e]
            exact ⟨_, rfl, unhide HV, unhide HW4⟩
          | false =>
            have HQ := hide hq
            have HI := hide (fun w => by have := is_at t (s.extract 0 n) p w hsz.1 (by omega); rw [hq] at this; exact this)
            clear hq hsz
            go_wp2
            have hbox := new_block wr (.cells #[.string t, .int .i32 p] 36)
            have HGB2 : Hid ((wr.alloc (.cells #[.string t, .int .i32 p] 36)).heap[b]? = some (.cells (tcells T) 36 (0, 0))) := hide (by rw [heap_alloc_old _ _ (lt_of_block (unhide HGB))]; exact unhide HGB)
            have HWB : Hid (Below w.heap.size w (wr.alloc (.cells #[.string t, .int .i32 p] 36))) := hide ((unhide HW).alloc (unhide HW).size _)
            generalize wr.alloc (.cells #[.string t, .int .i32 p] 36) = wb at hbox HWB HGB2 ⊢
            generalize wr.heap.size = nb at hbox ⊢
            have HBX := hide hbox
            have D0 := hide (cell_of (o := 0) (v := .string t) hbox rfl)
            have D1 := hide (cell_of (o := 1) (v := .int .i32 p) hbox rfl)
            clear hbox
            go_region_held3 (fun w' => w'.cell? ⟨nb, 0, none⟩ = some (.string t) ∧ w'.cell? ⟨nb, 1, none⟩ = some (.int .i32 p)) (first | exact ⟨unhide D0, unhide D1⟩ | exact ⟨unhide E0, unhide E1⟩) (first | (go_at_call 20; refine (unhide HI _).mono ?_; rintro e w2 ⟨rfl, hw2⟩; have HG2 : Hid (w2.heap[b]? = some (.cells (tcells T) 36 (0, 0))) := hide ((hw2.block b (lt_of_block (unhide HGB2))).trans (unhide HGB2)); have HB2 : Hid (w2.heap[nb]? = some (.cells #[.string t, .int .i32 p] 36 (0, 0))) := hide ((hw2.block nb (lt_of_block (unhide HBX))).trans (unhide HBX)); have E0 := hide (cell_of (o := 0) (v := .string t) (unhide HB2) rfl); have E1 := hide (cell_of (o := 1) (v := .int .i32 p) (unhide HB2) rfl); have HW2 : Hid (Below w.heap.size w w2) := hide ((unhide HWB).drew.trans (hw2.mono (unhide HWB).size)); clear hw2))
            all_goals go_wp2
            all_goals go_roundg (gk - 1)
            all_goals try (case measure => have := unhide HHI; omega)
            all_goals (
              refine ⟨i + 1, rfl, rfl, by go_num, by have := unhide HHI; omega, ?_, fun _ => ⟨b, rfl, unhide HG2⟩, unhide HW2⟩
              rw [unhide HF, unhide HD]; exact find_miss (fun x : ByteArray × Int => isB x.1 (s.extract 0 n)) _ _ (unhide HQ))
        · obtain rfl : i = T.length := by omega
          have hiz : ¬ (T.length : Int) < (T.length : Int) := by omega
          have HN : Hid (T.find? (fun x => isB x.1 (s.extract 0 n)) = none) := hide (by rw [unhide HF, List.drop_length]; rfl)
          go_wp2
          go_roundg m
          case measure => have := unhide HM; omega
          case rel =>
            have hm := unhide HM
            refine ⟨m, rfl, rfl, by rw [hm]; go_num, rfl, by omega, ?_, unhide HG, unhide HW⟩
            rw [unhide HLO, hm, longF, ← hm, unhide HN]
    · obtain rfl : n = 0 := by omega
      go_wp2
      simp only [Exit.noGoto]
      go_ret2
      rw [unhide HLO]
      exact ⟨_, rfl, .inl ⟨rfl, rfl⟩, unhide HW⟩

def longM (s : ByteArray) : Option (Nat × (ByteArray × Int)) := longF (tabL s.data.toList) s (min s.size 9)
def LongPost (s : ByteArray) (w : World) (e : Ending) (w' : World) : Prop := ∃ v, e = .returned (.tuple #[.string (longT s (longM s)), v]) ∧ RunesAt w' (longP (longM s)) v ∧ Below w.heap.size w w'
theorem longest_any (s : ByteArray) (w : World) : Calls Try.prog 13 #[.string s] w (LongPost s w) :=
  longest_tab s (tabL s.data.toList) (fun x hx => tabL_sizes _ x hx) (tabL_short _) w (fun w => alike_any s w)
end Go.Proofs.Ytdhknaiggnafnaa
