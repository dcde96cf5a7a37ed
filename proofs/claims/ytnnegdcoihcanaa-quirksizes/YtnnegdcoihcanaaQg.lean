/-
  QuirkSizes: the walk.
-/
import Derived.Test.YtnnegdcoihcanaaQf
namespace Go.Proofs.Ytnnegdcoihcanaa
open Go.RowKit Go.Lib

theorem toList_data (s : ByteArray) : s.toList = s.data.toList := by rw [ByteArray.toList_eq]
theorem good_mode (k : Int) (nm da sy : ByteArray) (hs : Int) (h : goodM k nm sy hs = true) : modeM k nm da sy hs false = 0 := by
  unfold goodM at h
  simp only [Bool.and_eq_true, Bool.not_eq_true'] at h
  obtain ⟨⟨⟨⟨h1, h2⟩, h3⟩, h4⟩, h5⟩ := h
  have hn : namedM nm hs = true := by
    unfold namedM sameM
    rw [toList_data] at h3
    have h3' : nm.data.toList = [104, 116, 109, 108] := by simpa using h3
    rw [h2, h3']
    decide +kernel
  have hb : ∀ l, begsM da hs l = false := fun l => by unfold begsM; rw [h4]; rfl
  have ho : oldM da sy hs = false := by
    unfold oldM
    rw [h4]
    cases e : hasB hs 4 with
    | false => rfl
    | true =>
      rw [e] at h5
      have h6 : sameM sy legacy = true := by simpa using h5
      have h7 : sy.data.toList.map low = legacy.data.toList.map low := by unfold sameM at h6; exact of_decide_eq_true h6
      have h8 : sameM sy ibm = false := by
        unfold sameM
        rw [h7]
        decide +kernel
      rw [h8]; rfl
  unfold modeM
  rw [h1, hn, ho, hb, hb, hb]
  rfl

section
variable (k : Int) (nm da sy : ByteArray) (hs : Int) (qk : Bool) (ch : Int) (se : Bool) (a : Option Addr) (len cap : Nat)

set_option maxHeartbeats 4000000 in
theorem sizes_1 (w : World) (hn : (nm.size : Int) ≤ 140737488355328) (hd : (da.size : Int) ≤ 140737488355328) (hz : (sy.size : Int) ≤ 140737488355328) (hg : goodM k nm sy hs = false) : Calls Try.prog 3 #[.agg #[.int .i64 k, .string nm, .string da, .string sy, .int .i64 hs, .bool qk, .int .i32 ch, .bool se, .slice a len cap]] w fun e w' => e = .returned (.bool true) ∧ Below w.heap.size w w' := by
  have HL1 := hide (fun W => large_any nm W hn)
  have HL2 := hide (fun W => large_any da W hd)
  have HL3 := hide (fun W => large_any sy W hz)
  have HM1 := hide (fun W => mode_any k nm da sy hs qk ch se a len cap W hn hd hz)
  have HM2 := hide (fun W => mode_any k (upS nm) (upS da) (upS sy) hs qk ch se a len cap W (by rw [up_size]; exact hn) (by rw [up_size]; exact hd) (by rw [up_size]; exact hz))
  have HG := hide (fun W => good_any k nm da sy hs qk ch se a len cap W hz)
  have HT := hide (two_new w k nm da sy hs qk ch se a len cap)
  rw [mode_up] at HM2
  generalize modeM k nm da sy hs qk = m at HM1 HM2
  rw [hg] at HG
  generalize upS nm = un at HL1 HM2
  generalize upS da = ud at HL2 HM2
  generalize upS sy = us at HL3 HM2
  clear hn hd hz hg
  go_enter Try.func3, Try.ntmps3
  go_wp2_with (first
    | (go_at_call 5; have _x := unhide H2; refine (unhide HL3 _).mono ?_; rintro e w3 ⟨rfl, hb⟩; have H3 := hide (((unhide H2).set2 ud).below hb); obtain ⟨c0, c1, c2, c3, c4, c5, c6, c7, c8, c9⟩ := (unhide H3).t; obtain ⟨d0, d1, d2, d3, d4, d5, d6, d7, d8, d9⟩ := (unhide H3).u; have fz := (unhide H3).fr; clear hb c9 d9)
    | (go_at_call 5; have _x := unhide H1; refine (unhide HL2 _).mono ?_; rintro e w2 ⟨rfl, hb⟩; have H2 := hide (((unhide H1).set1 un).below hb); obtain ⟨c0, c1, c2, c3, c4, c5, c6, c7, c8, c9⟩ := (unhide H2).t; obtain ⟨d0, d1, d2, d3, d4, d5, d6, d7, d8, d9⟩ := (unhide H2).u; have fz := (unhide H2).fr; clear hb c9 d9)
    | (go_at_call 5; refine (unhide HL1 _).mono ?_; rintro e w1 ⟨rfl, hb⟩; have H1 := hide ((unhide HT).below hb); obtain ⟨c0, c1, c2, c3, c4, c5, c6, c7, c8, c9⟩ := (unhide H1).t; obtain ⟨d0, d1, d2, d3, d4, d5, d6, d7, d8, d9⟩ := (unhide H1).u; have fz := (unhide H1).fr; clear hb c9 d9)
    | (go_at_call 6; fail))
  clear c0 c1 c2 c3 c4 c5 c6 c7 c8 d0 d1 d2 d3 d4 d5 d6 d7 d8 fz
  have HS := hide ((unhide H3).set3 us)
  generalize w3.setCell ⟨w.heap.size + 1, 3, none⟩ (.string us) = ws at HS
  obtain ⟨c0, c1, c2, c3, c4, c5, c6, c7, c8, c9⟩ := (unhide HS).t
  obtain ⟨d0, d1, d2, d3, d4, d5, d6, d7, d8, d9⟩ := (unhide HS).u
  clear c9 d9
  go_region_with (first
    | (go_at_call 6; have _x := unhide H4; refine (unhide HM2 _).mono ?_; rintro e w5 ⟨rfl, hb⟩; have H5 := hide ((unhide H4).below hb); obtain ⟨c0, c1, c2, c3, c4, c5, c6, c7, c8, c9⟩ := (unhide H5).t; clear hb c9)
    | (go_at_call 6; refine (unhide HM1 _).mono ?_; rintro e w4 ⟨rfl, hb⟩; have H4 := hide ((unhide HS).drew.below hb); obtain ⟨c0, c1, c2, c3, c4, c5, c6, c7, c8, c9⟩ := (unhide H4).t; obtain ⟨d0, d1, d2, d3, d4, d5, d6, d7, d8, d9⟩ := (unhide H4).u; clear hb c9 d9))
  all_goals
    go_wp2_with (first
    | (go_at_call 7; refine (unhide HG _).mono ?_; rintro e w6 ⟨rfl, hb⟩; have H6 := hide ((unhide H5).below hb); obtain ⟨c0, c1, c2, c3, c4, c5, c6, c7, c8, c9⟩ := (unhide H6).t; clear hb c9)
    | (go_at_call 8; refine (awake_any _).mono ?_; rintro e w8 ⟨rfl, hb⟩; have H8 := hide ((unhide H6).below hb); clear hb))
  all_goals
    go_ret
    exact ⟨rfl, (unhide H8).bel⟩

set_option maxHeartbeats 4000000 in
theorem sizes_2 (w : World) (hn : (nm.size : Int) ≤ 140737488355328) (hd : (da.size : Int) ≤ 140737488355328) (hz : (sy.size : Int) ≤ 140737488355328) (hg : goodM k nm sy hs = true) : Calls Try.prog 3 #[.agg #[.int .i64 k, .string nm, .string da, .string sy, .int .i64 hs, .bool true, .int .i32 ch, .bool se, .slice a len cap]] w fun e w' => e = .returned (.bool true) ∧ Below w.heap.size w w' := by
  have HL1 := hide (fun W => large_any nm W hn)
  have HL2 := hide (fun W => large_any da W hd)
  have HL3 := hide (fun W => large_any sy W hz)
  have HM1 := hide (fun W => mode_any k nm da sy hs true ch se a len cap W hn hd hz)
  have HM2 := hide (fun W => mode_any k (upS nm) (upS da) (upS sy) hs true ch se a len cap W (by rw [up_size]; exact hn) (by rw [up_size]; exact hd) (by rw [up_size]; exact hz))
  have HG := hide (fun W => good_any k nm da sy hs true ch se a len cap W hz)
  have HT := hide (two_new w k nm da sy hs true ch se a len cap)
  rw [mode_up] at HM2
  generalize modeM k nm da sy hs true = m at HM1 HM2
  rw [hg] at HG
  generalize upS nm = un at HL1 HM2
  generalize upS da = ud at HL2 HM2
  generalize upS sy = us at HL3 HM2
  clear hn hd hz hg
  go_enter Try.func3, Try.ntmps3
  go_wp2_with (first
    | (go_at_call 5; have _x := unhide H2; refine (unhide HL3 _).mono ?_; rintro e w3 ⟨rfl, hb⟩; have H3 := hide (((unhide H2).set2 ud).below hb); obtain ⟨c0, c1, c2, c3, c4, c5, c6, c7, c8, c9⟩ := (unhide H3).t; obtain ⟨d0, d1, d2, d3, d4, d5, d6, d7, d8, d9⟩ := (unhide H3).u; have fz := (unhide H3).fr; clear hb c9 d9)
    | (go_at_call 5; have _x := unhide H1; refine (unhide HL2 _).mono ?_; rintro e w2 ⟨rfl, hb⟩; have H2 := hide (((unhide H1).set1 un).below hb); obtain ⟨c0, c1, c2, c3, c4, c5, c6, c7, c8, c9⟩ := (unhide H2).t; obtain ⟨d0, d1, d2, d3, d4, d5, d6, d7, d8, d9⟩ := (unhide H2).u; have fz := (unhide H2).fr; clear hb c9 d9)
    | (go_at_call 5; refine (unhide HL1 _).mono ?_; rintro e w1 ⟨rfl, hb⟩; have H1 := hide ((unhide HT).below hb); obtain ⟨c0, c1, c2, c3, c4, c5, c6, c7, c8, c9⟩ := (unhide H1).t; obtain ⟨d0, d1, d2, d3, d4, d5, d6, d7, d8, d9⟩ := (unhide H1).u; have fz := (unhide H1).fr; clear hb c9 d9)
    | (go_at_call 6; fail))
  clear c0 c1 c2 c3 c4 c5 c6 c7 c8 d0 d1 d2 d3 d4 d5 d6 d7 d8 fz
  have HS := hide ((unhide H3).set3 us)
  generalize w3.setCell ⟨w.heap.size + 1, 3, none⟩ (.string us) = ws at HS
  obtain ⟨c0, c1, c2, c3, c4, c5, c6, c7, c8, c9⟩ := (unhide HS).t
  obtain ⟨d0, d1, d2, d3, d4, d5, d6, d7, d8, d9⟩ := (unhide HS).u
  clear c9 d9
  go_region_with (first
    | (go_at_call 6; have _x := unhide H4; refine (unhide HM2 _).mono ?_; rintro e w5 ⟨rfl, hb⟩; have H5 := hide ((unhide H4).below hb); obtain ⟨c0, c1, c2, c3, c4, c5, c6, c7, c8, c9⟩ := (unhide H5).t; clear hb c9)
    | (go_at_call 6; refine (unhide HM1 _).mono ?_; rintro e w4 ⟨rfl, hb⟩; have H4 := hide ((unhide HS).drew.below hb); obtain ⟨c0, c1, c2, c3, c4, c5, c6, c7, c8, c9⟩ := (unhide H4).t; obtain ⟨d0, d1, d2, d3, d4, d5, d6, d7, d8, d9⟩ := (unhide H4).u; clear hb c9 d9))
  all_goals
    go_wp2_with (first
    | (go_at_call 7; refine (unhide HG _).mono ?_; rintro e w6 ⟨rfl, hb⟩; have H6 := hide ((unhide H5).below hb); obtain ⟨c0, c1, c2, c3, c4, c5, c6, c7, c8, c9⟩ := (unhide H6).t; clear hb c9)
    | (go_at_call 8; refine (awake_any _).mono ?_; rintro e w8 ⟨rfl, hb⟩; have H8 := hide ((unhide H6).below hb); clear hb))
  all_goals
    go_ret
    exact ⟨rfl, (unhide H8).bel⟩

set_option maxHeartbeats 4000000 in
theorem sizes_3 (w : World) (hn : (nm.size : Int) ≤ 140737488355328) (hd : (da.size : Int) ≤ 140737488355328) (hz : (sy.size : Int) ≤ 140737488355328) (hg : goodM k nm sy hs = true) : Calls Try.prog 3 #[.agg #[.int .i64 k, .string nm, .string da, .string sy, .int .i64 hs, .bool false, .int .i32 ch, .bool se, .slice a len cap]] w fun e w' => e = .returned (.bool true) ∧ Below w.heap.size w w' := by
  have HL1 := hide (fun W => large_any nm W hn)
  have HL2 := hide (fun W => large_any da W hd)
  have HL3 := hide (fun W => large_any sy W hz)
  have HM1 := hide (fun W => mode_any k nm da sy hs false ch se a len cap W hn hd hz)
  have HM2 := hide (fun W => mode_any k (upS nm) (upS da) (upS sy) hs false ch se a len cap W (by rw [up_size]; exact hn) (by rw [up_size]; exact hd) (by rw [up_size]; exact hz))
  have HG := hide (fun W => good_any k nm da sy hs false ch se a len cap W hz)
  have HT := hide (two_new w k nm da sy hs false ch se a len cap)
  rw [mode_up, good_mode _ _ _ _ _ hg] at HM2
  rw [good_mode _ _ _ _ _ hg] at HM1
  rw [hg] at HG
  generalize upS nm = un at HL1 HM2
  generalize upS da = ud at HL2 HM2
  generalize upS sy = us at HL3 HM2
  clear hn hd hz hg
  go_enter Try.func3, Try.ntmps3
  go_wp2_with (first
    | (go_at_call 5; have _x := unhide H2; refine (unhide HL3 _).mono ?_; rintro e w3 ⟨rfl, hb⟩; have H3 := hide (((unhide H2).set2 ud).below hb); obtain ⟨c0, c1, c2, c3, c4, c5, c6, c7, c8, c9⟩ := (unhide H3).t; obtain ⟨d0, d1, d2, d3, d4, d5, d6, d7, d8, d9⟩ := (unhide H3).u; have fz := (unhide H3).fr; clear hb c9 d9)
    | (go_at_call 5; have _x := unhide H1; refine (unhide HL2 _).mono ?_; rintro e w2 ⟨rfl, hb⟩; have H2 := hide (((unhide H1).set1 un).below hb); obtain ⟨c0, c1, c2, c3, c4, c5, c6, c7, c8, c9⟩ := (unhide H2).t; obtain ⟨d0, d1, d2, d3, d4, d5, d6, d7, d8, d9⟩ := (unhide H2).u; have fz := (unhide H2).fr; clear hb c9 d9)
    | (go_at_call 5; refine (unhide HL1 _).mono ?_; rintro e w1 ⟨rfl, hb⟩; have H1 := hide ((unhide HT).below hb); obtain ⟨c0, c1, c2, c3, c4, c5, c6, c7, c8, c9⟩ := (unhide H1).t; obtain ⟨d0, d1, d2, d3, d4, d5, d6, d7, d8, d9⟩ := (unhide H1).u; have fz := (unhide H1).fr; clear hb c9 d9)
    | (go_at_call 6; fail))
  clear c0 c1 c2 c3 c4 c5 c6 c7 c8 d0 d1 d2 d3 d4 d5 d6 d7 d8 fz
  have HS := hide ((unhide H3).set3 us)
  generalize w3.setCell ⟨w.heap.size + 1, 3, none⟩ (.string us) = ws at HS
  obtain ⟨c0, c1, c2, c3, c4, c5, c6, c7, c8, c9⟩ := (unhide HS).t
  obtain ⟨d0, d1, d2, d3, d4, d5, d6, d7, d8, d9⟩ := (unhide HS).u
  clear c9 d9
  go_region_with (first
    | (go_at_call 6; have _x := unhide H4; refine (unhide HM2 _).mono ?_; rintro e w5 ⟨rfl, hb⟩; have H5 := hide ((unhide H4).below hb); obtain ⟨c0, c1, c2, c3, c4, c5, c6, c7, c8, c9⟩ := (unhide H5).t; clear hb c9)
    | (go_at_call 6; refine (unhide HM1 _).mono ?_; rintro e w4 ⟨rfl, hb⟩; have H4 := hide ((unhide HS).drew.below hb); obtain ⟨c0, c1, c2, c3, c4, c5, c6, c7, c8, c9⟩ := (unhide H4).t; obtain ⟨d0, d1, d2, d3, d4, d5, d6, d7, d8, d9⟩ := (unhide H4).u; clear hb c9 d9))
  all_goals
    go_wp2_with (first
    | (go_at_call 6; have _x := unhide H6; refine (unhide HM1 _).mono ?_; rintro e w7 ⟨rfl, hb⟩; have H7 := hide ((unhide H6).below hb); clear hb)
    | (go_at_call 7; refine (unhide HG _).mono ?_; rintro e w6 ⟨rfl, hb⟩; have H6 := hide ((unhide H5).below hb); obtain ⟨c0, c1, c2, c3, c4, c5, c6, c7, c8, c9⟩ := (unhide H6).t; clear hb c9)
    | (go_at_call 8; refine (awake_any _).mono ?_; rintro e w8 ⟨rfl, hb⟩; have H8 := hide ((unhide H7).below hb); clear hb))
  all_goals
    go_ret
    exact ⟨rfl, (unhide H8).bel⟩

theorem sizes_walk (w : World) (hn : (nm.size : Int) ≤ 140737488355328) (hd : (da.size : Int) ≤ 140737488355328) (hz : (sy.size : Int) ≤ 140737488355328) : Calls Try.prog 3 #[.agg #[.int .i64 k, .string nm, .string da, .string sy, .int .i64 hs, .bool qk, .int .i32 ch, .bool se, .slice a len cap]] w fun e w' => e = .returned (.bool true) ∧ Below w.heap.size w w' := by
  cases hg : goodM k nm sy hs with
  | false => exact sizes_1 k nm da sy hs qk ch se a len cap w hn hd hz hg
  | true =>
    cases qk with
    | true => exact sizes_2 k nm da sy hs ch se a len cap w hn hd hz hg
    | false => exact sizes_3 k nm da sy hs ch se a len cap w hn hd hz hg
end
end Go.Proofs.Ytnnegdcoihcanaa
