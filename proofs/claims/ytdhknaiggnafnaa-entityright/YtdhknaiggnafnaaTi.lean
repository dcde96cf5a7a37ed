/-
  Package entity's alike: the names whose first letter is that of a text.
-/
import Derived.Test.YtdhknaiggnafnaaTb
import Derived.Test.YtdhknaiggnafnaaTc
import Derived.Test.YtdhknaiggnafnaaTd
import Derived.Test.YtdhknaiggnafnaaTh
namespace Go.Proofs.Ytdhknaiggnafnaa
open Go.RowKit Go.Lib

theorem TabAt.keep {e : TypeId} {w w' : World} {T : List (ByteArray × Int)} {v : Value} (h : TabAt e w T v) (hw : Below w.heap.size w w') : TabAt e w' T v := by
  rcases h with h | ⟨b, hn, e, hb⟩
  · exact .inl h
  · exact .inr ⟨b, hn, e, (hw.block b (lt_of_block hb)).trans hb⟩

theorem len_data (s : ByteArray) : s.data.toList.length = s.size := by show _ = s.data.size; simp

def TabPost (w : World) (T : List (ByteArray × Int)) (e : Ending) (w' : World) : Prop := ∃ v, e = .returned v ∧ TabAt 36 w' T v ∧ Below w.heap.size w w'
theorem tab_post (w : World) (T : List (ByteArray × Int)) (n : Nat) (b : Nat) (hT : tabOf b = T) (hn : T.length = n) (hne : T ≠ []) (e : Ending) (w' : World)
    (h : e = .returned (.slice (some ⟨w.heap.size, 0, none⟩) n n) ∧ w' = w.alloc (.cells (tcells T) 36)) : TabPost w (tabOf b) e w' := by
  obtain ⟨rfl, rfl⟩ := h
  subst hT hn
  exact ⟨_, rfl, .inr ⟨_, hne, rfl, new_block _ _⟩, (Below.refl _ _).alloc (Nat.le_refl _) _⟩
theorem none_post (w : World) (b : Nat) (hT : tabOf b = []) (e : Ending) (w' : World) (h : e = .returned (.slice none 0 0) ∧ w' = w) : TabPost w (tabOf b) e w' := by
  obtain ⟨rfl, rfl⟩ := h
  exact ⟨_, rfl, .inl ⟨hT, rfl⟩, Below.refl _ _⟩

theorem empty32 : ∀ b : Fin 256, 0 ≤ b.val → b.val < 97 → (b.val ∈ [65, 66, 67, 68, 69, 71, 73, 75, 76, 77, 78, 79, 80, 81, 82, 83, 84, 85, 88, 89, 90] ∨ (tabOf b.val).isEmpty = true) := by decide +kernel
theorem tabs32_at (b : Nat) (h0 : 0 ≤ b) (h1 : b < 97) (w : World) : Calls Try.prog 32 #[.int .u8 (b : Int)] w (TabPost w (tabOf b)) := by
  by_cases h65 : b = 65
  · subst h65; exact (tab65_at w).mono (tab_post w tab65 _ 65 rfl rfl (by unfold tab65; exact List.cons_ne_nil _ _))
  by_cases h66 : b = 66
  · subst h66; exact (tab66_at w).mono (tab_post w tab66 _ 66 rfl rfl (by unfold tab66; exact List.cons_ne_nil _ _))
  by_cases h67 : b = 67
  · subst h67; exact (tab67_at w).mono (tab_post w tab67 _ 67 rfl rfl (by unfold tab67; exact List.cons_ne_nil _ _))
  by_cases h68 : b = 68
  · subst h68; exact (tab68_at w).mono (tab_post w tab68 _ 68 rfl rfl (by unfold tab68; exact List.cons_ne_nil _ _))
  by_cases h69 : b = 69
  · subst h69; exact (tab69_at w).mono (tab_post w tab69 _ 69 rfl rfl (by unfold tab69; exact List.cons_ne_nil _ _))
  by_cases h71 : b = 71
  · subst h71; exact (tab71_at w).mono (tab_post w tab71 _ 71 rfl rfl (by unfold tab71; exact List.cons_ne_nil _ _))
  by_cases h73 : b = 73
  · subst h73; exact (tab73_at w).mono (tab_post w tab73 _ 73 rfl rfl (by unfold tab73; exact List.cons_ne_nil _ _))
  by_cases h75 : b = 75
  · subst h75; exact (tab75_at w).mono (tab_post w tab75 _ 75 rfl rfl (by unfold tab75; exact List.cons_ne_nil _ _))
  by_cases h76 : b = 76
  · subst h76; exact (tab76_at w).mono (tab_post w tab76 _ 76 rfl rfl (by unfold tab76; exact List.cons_ne_nil _ _))
  by_cases h77 : b = 77
  · subst h77; exact (tab77_at w).mono (tab_post w tab77 _ 77 rfl rfl (by unfold tab77; exact List.cons_ne_nil _ _))
  by_cases h78 : b = 78
  · subst h78; exact (tab78_at w).mono (tab_post w tab78 _ 78 rfl rfl (by unfold tab78; exact List.cons_ne_nil _ _))
  by_cases h79 : b = 79
  · subst h79; exact (tab79_at w).mono (tab_post w tab79 _ 79 rfl rfl (by unfold tab79; exact List.cons_ne_nil _ _))
  by_cases h80 : b = 80
  · subst h80; exact (tab80_at w).mono (tab_post w tab80 _ 80 rfl rfl (by unfold tab80; exact List.cons_ne_nil _ _))
  by_cases h81 : b = 81
  · subst h81; exact (tab81_at w).mono (tab_post w tab81 _ 81 rfl rfl (by unfold tab81; exact List.cons_ne_nil _ _))
  by_cases h82 : b = 82
  · subst h82; exact (tab82_at w).mono (tab_post w tab82 _ 82 rfl rfl (by unfold tab82; exact List.cons_ne_nil _ _))
  by_cases h83 : b = 83
  · subst h83; exact (tab83_at w).mono (tab_post w tab83 _ 83 rfl rfl (by unfold tab83; exact List.cons_ne_nil _ _))
  by_cases h84 : b = 84
  · subst h84; exact (tab84_at w).mono (tab_post w tab84 _ 84 rfl rfl (by unfold tab84; exact List.cons_ne_nil _ _))
  by_cases h85 : b = 85
  · subst h85; exact (tab85_at w).mono (tab_post w tab85 _ 85 rfl rfl (by unfold tab85; exact List.cons_ne_nil _ _))
  by_cases h88 : b = 88
  · subst h88; exact (tab88_at w).mono (tab_post w tab88 _ 88 rfl rfl (by unfold tab88; exact List.cons_ne_nil _ _))
  by_cases h89 : b = 89
  · subst h89; exact (tab89_at w).mono (tab_post w tab89 _ 89 rfl rfl (by unfold tab89; exact List.cons_ne_nil _ _))
  by_cases h90 : b = 90
  · subst h90; exact (tab90_at w).mono (tab_post w tab90 _ 90 rfl rfl (by unfold tab90; exact List.cons_ne_nil _ _))
  refine (none32_at (b : Int) w (beq_false_of_ne (by omega)) (beq_false_of_ne (by omega)) (beq_false_of_ne (by omega)) (beq_false_of_ne (by omega)) (beq_false_of_ne (by omega)) (beq_false_of_ne (by omega)) (beq_false_of_ne (by omega)) (beq_false_of_ne (by omega)) (beq_false_of_ne (by omega)) (beq_false_of_ne (by omega)) (beq_false_of_ne (by omega)) (beq_false_of_ne (by omega)) (beq_false_of_ne (by omega)) (beq_false_of_ne (by omega)) (beq_false_of_ne (by omega)) (beq_false_of_ne (by omega)) (beq_false_of_ne (by omega)) (beq_false_of_ne (by omega)) (beq_false_of_ne (by omega)) (beq_false_of_ne (by omega)) (beq_false_of_ne (by omega))).mono (none_post w b ?_)
  rcases empty32 ⟨b, by omega⟩ h0 h1 with h | h
  · simp only [List.mem_cons, List.not_mem_nil, or_false] at h; omega
  · exact List.isEmpty_iff.1 h
theorem empty33 : ∀ b : Fin 256, 97 ≤ b.val → b.val < 109 → (b.val ∈ [97, 98, 99, 100, 101, 102, 103, 104, 105, 107, 108] ∨ (tabOf b.val).isEmpty = true) := by decide +kernel
theorem tabs33_at (b : Nat) (h0 : 97 ≤ b) (h1 : b < 109) (w : World) : Calls Try.prog 33 #[.int .u8 (b : Int)] w (TabPost w (tabOf b)) := by
  by_cases h97 : b = 97
  · subst h97; exact (tab97_at w).mono (tab_post w tab97 _ 97 rfl rfl (by unfold tab97; exact List.cons_ne_nil _ _))
  by_cases h98 : b = 98
  · subst h98; exact (tab98_at w).mono (tab_post w tab98 _ 98 rfl rfl (by unfold tab98; exact List.cons_ne_nil _ _))
  by_cases h99 : b = 99
  · subst h99; exact (tab99_at w).mono (tab_post w tab99 _ 99 rfl rfl (by unfold tab99; exact List.cons_ne_nil _ _))
  by_cases h100 : b = 100
  · subst h100; exact (tab100_at w).mono (tab_post w tab100 _ 100 rfl rfl (by unfold tab100; exact List.cons_ne_nil _ _))
  by_cases h101 : b = 101
  · subst h101; exact (tab101_at w).mono (tab_post w tab101 _ 101 rfl rfl (by unfold tab101; exact List.cons_ne_nil _ _))
  by_cases h102 : b = 102
  · subst h102; exact (tab102_at w).mono (tab_post w tab102 _ 102 rfl rfl (by unfold tab102; exact List.cons_ne_nil _ _))
  by_cases h103 : b = 103
  · subst h103; exact (tab103_at w).mono (tab_post w tab103 _ 103 rfl rfl (by unfold tab103; exact List.cons_ne_nil _ _))
  by_cases h104 : b = 104
  · subst h104; exact (tab104_at w).mono (tab_post w tab104 _ 104 rfl rfl (by unfold tab104; exact List.cons_ne_nil _ _))
  by_cases h105 : b = 105
  · subst h105; exact (tab105_at w).mono (tab_post w tab105 _ 105 rfl rfl (by unfold tab105; exact List.cons_ne_nil _ _))
  by_cases h107 : b = 107
  · subst h107; exact (tab107_at w).mono (tab_post w tab107 _ 107 rfl rfl (by unfold tab107; exact List.cons_ne_nil _ _))
  by_cases h108 : b = 108
  · subst h108; exact (tab108_at w).mono (tab_post w tab108 _ 108 rfl rfl (by unfold tab108; exact List.cons_ne_nil _ _))
  refine (none33_at (b : Int) w (beq_false_of_ne (by omega)) (beq_false_of_ne (by omega)) (beq_false_of_ne (by omega)) (beq_false_of_ne (by omega)) (beq_false_of_ne (by omega)) (beq_false_of_ne (by omega)) (beq_false_of_ne (by omega)) (beq_false_of_ne (by omega)) (beq_false_of_ne (by omega)) (beq_false_of_ne (by omega)) (beq_false_of_ne (by omega))).mono (none_post w b ?_)
  rcases empty33 ⟨b, by omega⟩ h0 h1 with h | h
  · simp only [List.mem_cons, List.not_mem_nil, or_false] at h; omega
  · exact List.isEmpty_iff.1 h
theorem empty34 : ∀ b : Fin 256, 109 ≤ b.val → b.val < 256 → (b.val ∈ [109, 110, 111, 112, 113, 114, 115, 116, 117, 120, 121, 122] ∨ (tabOf b.val).isEmpty = true) := by decide +kernel
theorem tabs34_at (b : Nat) (h0 : 109 ≤ b) (h1 : b < 256) (w : World) : Calls Try.prog 34 #[.int .u8 (b : Int)] w (TabPost w (tabOf b)) := by
  by_cases h109 : b = 109
  · subst h109; exact (tab109_at w).mono (tab_post w tab109 _ 109 rfl rfl (by unfold tab109; exact List.cons_ne_nil _ _))
  by_cases h110 : b = 110
  · subst h110; exact (tab110_at w).mono (tab_post w tab110 _ 110 rfl rfl (by unfold tab110; exact List.cons_ne_nil _ _))
  by_cases h111 : b = 111
  · subst h111; exact (tab111_at w).mono (tab_post w tab111 _ 111 rfl rfl (by unfold tab111; exact List.cons_ne_nil _ _))
  by_cases h112 : b = 112
  · subst h112; exact (tab112_at w).mono (tab_post w tab112 _ 112 rfl rfl (by unfold tab112; exact List.cons_ne_nil _ _))
  by_cases h113 : b = 113
  · subst h113; exact (tab113_at w).mono (tab_post w tab113 _ 113 rfl rfl (by unfold tab113; exact List.cons_ne_nil _ _))
  by_cases h114 : b = 114
  · subst h114; exact (tab114_at w).mono (tab_post w tab114 _ 114 rfl rfl (by unfold tab114; exact List.cons_ne_nil _ _))
  by_cases h115 : b = 115
  · subst h115; exact (tab115_at w).mono (tab_post w tab115 _ 115 rfl rfl (by unfold tab115; exact List.cons_ne_nil _ _))
  by_cases h116 : b = 116
  · subst h116; exact (tab116_at w).mono (tab_post w tab116 _ 116 rfl rfl (by unfold tab116; exact List.cons_ne_nil _ _))
  by_cases h117 : b = 117
  · subst h117; exact (tab117_at w).mono (tab_post w tab117 _ 117 rfl rfl (by unfold tab117; exact List.cons_ne_nil _ _))
  by_cases h120 : b = 120
  · subst h120; exact (tab120_at w).mono (tab_post w tab120 _ 120 rfl rfl (by unfold tab120; exact List.cons_ne_nil _ _))
  by_cases h121 : b = 121
  · subst h121; exact (tab121_at w).mono (tab_post w tab121 _ 121 rfl rfl (by unfold tab121; exact List.cons_ne_nil _ _))
  by_cases h122 : b = 122
  · subst h122; exact (tab122_at w).mono (tab_post w tab122 _ 122 rfl rfl (by unfold tab122; exact List.cons_ne_nil _ _))
  refine (none34_at (b : Int) w (beq_false_of_ne (by omega)) (beq_false_of_ne (by omega)) (beq_false_of_ne (by omega)) (beq_false_of_ne (by omega)) (beq_false_of_ne (by omega)) (beq_false_of_ne (by omega)) (beq_false_of_ne (by omega)) (beq_false_of_ne (by omega)) (beq_false_of_ne (by omega)) (beq_false_of_ne (by omega)) (beq_false_of_ne (by omega)) (beq_false_of_ne (by omega))).mono (none_post w b ?_)
  rcases empty34 ⟨b, by omega⟩ h0 h1 with h | h
  · simp only [List.mem_cons, List.not_mem_nil, or_false] at h; omega
  · exact List.isEmpty_iff.1 h

theorem alike_at (s : ByteArray) (w : World) (hs : 0 < s.size) : Calls Try.prog 19 #[.string s] w (TabPost w (tabOf (s[0]'hs).toNat)) := by
  have hlt := (s[0]'hs).toNat_lt
  have hsz : (0 : Int) < (s.size : Int) := by omega
  have hne : (s.toList == []) = false := by
    rw [toList_data]
    cases e : s.data.toList with
    | nil => rw [← len_data, e] at hs; simp at hs
    | cons x l => rfl
  obtain ⟨x, hx⟩ : ∃ x : UInt8, s[0]'hs = x := ⟨_, rfl⟩
  rw [hx] at hlt ⊢
  by_cases h1 : x.toNat < 97
  · have h1z : ((x.toNat : Int) < 97) := by omega
    have HC := hide (fun w => tabs32_at x.toNat (by omega) h1 w)
    go_enter Try.func19, Try.ntmps19
    go_wp2_with (go_at_call 32; refine (unhide HC _).mono ?_; rintro e w' ⟨v, rfl, hv, hw⟩)
    go_ret
    exact ⟨_, rfl, hv, hw⟩
  · by_cases h2 : x.toNat < 109
    · have h1z : ¬ ((x.toNat : Int) < 97) := by omega
      have h2z : ((x.toNat : Int) < 109) := by omega
      have HC := hide (fun w => tabs33_at x.toNat (by omega) h2 w)
      go_enter Try.func19, Try.ntmps19
      go_wp2_with (go_at_call 33; refine (unhide HC _).mono ?_; rintro e w' ⟨v, rfl, hv, hw⟩)
      go_ret
      exact ⟨_, rfl, hv, hw⟩
    · have h1z : ¬ ((x.toNat : Int) < 97) := by omega
      have h2z : ¬ ((x.toNat : Int) < 109) := by omega
      have HC := hide (fun w => tabs34_at x.toNat (by omega) (by omega) w)
      go_enter Try.func19, Try.ntmps19
      go_wp2_with (go_at_call 34; refine (unhide HC _).mono ?_; rintro e w' ⟨v, rfl, hv, hw⟩)
      go_ret
      exact ⟨_, rfl, hv, hw⟩
theorem alike_none (w : World) : Calls Try.prog 19 #[.string ⟨#[]⟩] w (TabPost w []) := by
  go_enter Try.func19, Try.ntmps19
  go_wp2
  go_ret
  exact ⟨_, rfl, .inl ⟨rfl, rfl⟩, Below.refl _ _⟩
end Go.Proofs.Ytdhknaiggnafnaa
