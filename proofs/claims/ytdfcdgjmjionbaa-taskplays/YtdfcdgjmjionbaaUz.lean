/-
  TaskPlays' walk.
-/
import Derived.Test.YtdfcdgjmjionbaaUw
import Derived.Deep.LoopGhost
import Derived.Deep.RegionHeld3
namespace Go.Proofs.Ytdfcdgjmjionbaa
open Go.RowKit Go.Lib

theorem awake_two (w : World) : Calls Try.prog 22 #[] w fun e w' => e = .returned (.bool true) ∧ Below w.heap.size w w' := by
  go_enter Try.func22, Try.ntmps22
  go_wp2_with (go_at_call 9; fail)
  refine (new_any _ _ (Nat.le_refl _)).mono ?_
  rintro e w1 ⟨bq, F, rfl, hq, hb, hF⟩
  have HQ := hide hq
  have HB1 := hide hb
  clear hq hb hF
  go_wp2_with (go_at_call 12; fail)
  refine (job_any _ _).mono ?_
  rintro e w2 ⟨x, rfl, hb, hx⟩
  have HX := hide hx
  have HB2 := hide hb
  clear hx hb
  go_wp2_with (go_at_call 11; fail)
  refine (post_any ((unhide HQ).below (unhide HB2)) (Nat.le_trans (unhide HB1).size (unhide HB2).size) 1 (tkJob 5) x (unhide HX)).mono ?_
  rintro e w3 ⟨rfl, F', hq, hm, hF⟩
  have e1 : postM [[], [], [], []] 1 (tkJob 5) = (0, [[], [tkJob 5], [], []]) := rfl
  rw [e1] at hq ⊢
  have HQ3 := hide hq
  have HB3 : Hid (Below w.heap.size w w3) := hide (((Mod.of_below (unhide HB1)).trans ((Mod.of_below (F := fun k => w.heap.size ≤ k) ((unhide HB2)))) |>.then hm (fun k hk => .inl ((unhide HQ).lt k hk).1)).below (Nat.le_refl _) (fun k hk => hk))
  clear hq hm hF
  dsimp only
  go_wp2_with (go_at_call 17; fail)
  refine (len_any (unhide HQ3)).mono ?_
  rintro e w4 ⟨rfl, hb⟩
  have HB4 := hide ((unhide HB3).trans (hb.mono (unhide HB3).size))
  clear hb
  have e2 : ((lenQ [[], [tkJob 5], [], []] : Nat) : Int) = 1 := rfl
  go_wp2
  go_ret
  exact ⟨rfl, unhide HB4⟩

set_option maxRecDepth 20000 in
set_option maxHeartbeats 8000000 in
theorem plays_walk (l : List OpM) (a : Option Addr) (cap : Nat) (w : World) (hin : OpsIn w a l) (_hlen : l.length ≤ 140737488351232) :
    Calls Try.prog 3 #[.slice a l.length cap] w fun e w' => e = .returned (.bool true) ∧ Below w.heap.size w w' := by
  have HIN := hide hin
  clear hin
  go_enter Try.func3, Try.ntmps3
  go_wp2_with (go_at_call 9; fail)
  refine (new_any _ _ (Nat.le_refl _)).mono ?_
  rintro e w1 ⟨bq, F0, rfl, hq, hb, hF⟩
  have HQ := hide hq
  have HB1 := hide hb
  clear hq hb hF
  go_wp2_with (go_at_call 10; fail)
  refine (rnew_any w1 w.heap.size (unhide HB1).size).mono ?_
  rintro e w2 ⟨rq, G0, rfl, hq, hb, hG⟩
  have HBOTH : Hid (Two w w2 bq rq (qsOf [[], [], [], []]) [[], [], [], []] F0 G0) := hide ⟨(unhide HB1).trans (hb.mono (unhide HB1).size), (unhide HQ).below hb, hq, fun k h1 h2 => by have := ((unhide HQ).lt k h1).2; have := hG k h2; omega⟩
  clear hq hb hG HQ HB1
  go_wp2
  go_loopg [5, 6, 7, 8, 9, 10, 11, 12] l.length (fun k s5 s6 s7 s8 s9 s10 s11 s12 wx => ∃ (i : Nat) (z : Int) (ls : List (List Jb)) (F G : Nat → Prop), s5 = .int .i64 z ∧ i + k = l.length ∧ z = (i : Int) ∧ Two w wx bq rq (qsOf ls) ls F G)
  case atStart => exact ⟨0, 0, _, F0, G0, rfl, by omega, rfl, unhide HBOTH⟩
  case round =>
    obtain ⟨i, z, ls, F, G, rfl, hik, hz, hboth⟩ := hrel
    have HX := hide hboth
    by_cases hi : i < l.length
    · obtain ⟨o, ho⟩ : ∃ o, l[i]? = some o := ⟨_, List.getElem?_eq_getElem hi⟩
      obtain ⟨b, off, rfl, c0, c1, c2⟩ := (unhide HIN).below hboth.bel i o ho
      have hzl : z < (l.length : Int) := by omega
      have hz0 : 0 ≤ z := by omega
      have hzt : z.toNat = i := by omega
      have hz9 : z < 140737488355328 := by omega
      have HZ := hide (And.intro hz (And.intro hik hi))
      have hbx := heap_alloc_new wr (.cells #[.int .i64 o.what, .int .i64 o.src, .int .i64 o.n] 28)
      have HS0 : Hid (St w (wr.alloc (.cells #[.int .i64 o.what, .int .i64 o.src, .int .i64 o.n] 28)) bq rq (qsOf ls) ls wr.heap.size #[.int .i64 o.what, .int .i64 o.src, .int .i64 o.n]) := hide ⟨F, G, hboth.below (below_new wr _), hbx, fun h => by have := (hboth.q.lt _ h).2; omega, fun h => by have := (hboth.r.lt _ h).2; omega⟩
      obtain ⟨ow, os, on⟩ := o
      dsimp only at *
      clear hz hik hi ho hboth hbx
      by_cases hw : ow = 0
      · subst hw
        have hs0 : ∀ W qs' ls', St w W bq rq qs' ls' wr.heap.size #[.int .i64 0, .int .i64 os, .int .i64 on] → W.cell? ⟨wr.heap.size, 1, none⟩ = some (.int .i64 os) ∧ W.cell? ⟨wr.heap.size, 2, none⟩ = some (.int .i64 on) := fun W qs' ls' h => ⟨(h.cell 1).trans (by rfl), (h.cell 2).trans (by rfl)⟩
        have HC := hide hs0
        clear hs0
        go_wp2
        go_region_held3 (fun W' => W'.cell? ⟨wr.heap.size, 1, none⟩ = some (.int .i64 os) ∧ W'.cell? ⟨wr.heap.size, 2, none⟩ = some (.int .i64 on))
          (first | exact (unhide HC) _ _ _ (unhide E4) | exact (unhide HC) _ _ _ (unhide E4).drew | exact (unhide HC) _ _ _ (unhide E3).st | exact (unhide HC) _ _ _ (unhide E3).st.drew | exact (unhide HC) _ _ _ (unhide E2) | exact (unhide HC) _ _ _ (unhide E2).drew | exact (unhide HC) _ _ _ (unhide E1) | exact (unhide HC) _ _ _ (unhide E1).drew | exact (unhide HC) _ _ _ (unhide HS0) | exact (unhide HC) _ _ _ (unhide HS0).drew) (first
          | (go_at_call 13; (first | refine ((unhide E3).post os).mono ?_ | refine (((unhide E3).below (Below.refl _ _).drew).post os).mono ?_); rintro e w6 ⟨rfl, hst⟩; dsimp only; have E4 := hide hst; clear hst)
          | (have _x := unhide E2; clear _x; go_at_call 12; (first | refine ((unhide E2).job2 on).mono ?_ | refine ((unhide E2).drew.job2 on).mono ?_); rintro e w5 ⟨jb, rfl, hst⟩; dsimp only; have E3 := hide hst; clear hst)
          | (go_at_call 11; (first | refine ((unhide E1).post os (tkJob on) x (unhide X1)).mono ?_ | refine ((unhide E1).drew.post os (tkJob on) x ((unhide X1).below (Below.refl _ _).drew)).mono ?_); rintro e w4 ⟨rfl, hst⟩; dsimp only; have E2 := hide hst; clear hst)
          | (go_at_call 12; (first | refine ((unhide HS0).job1 on).mono ?_ | refine ((unhide HS0).drew.job1 on).mono ?_); rintro e w3 ⟨x, rfl, hst, hx⟩; dsimp only; have E1 := hide hst; have X1 := hide hx; clear hst hx))
        have hpp := qsOf_post ls os ⟨on, jb⟩
        dsimp only at hpp
        rw [hpp]
        rw [hpp] at E4
        clear hpp
        dsimp only at E4 ⊢
        obtain ⟨LS, hLS⟩ : ∃ LS, (postT ls os ⟨on, jb⟩).2 = LS := ⟨_, rfl⟩
        rw [hLS] at E4
        clear hLS E1 E2 E3 X1 HC
        have HS := hide (unhide E4)
        obtain ⟨F3, G3, ht, _⟩ := unhide HS
        have HT := hide ht
        clear ht
        go_wp2_with (go_at_call 17; fail)
        refine (len_any (unhide HT).q).mono ?_
        rw [qsOf_len]
        rintro e v1 ⟨rfl, hb⟩
        have HT1 := hide ((unhide HT).below hb)
        clear hb
        go_wp2_with (go_at_call 18; fail)
        refine (rlen_any (unhide HT1).r).mono ?_
        rintro e v2 ⟨rfl, rfl⟩
        go_wp2_with (go_at_call 20; fail)
        refine (ready_any (unhide HT1).q).mono ?_
        rw [qsOf_ready, ← toI_len]
        rintro e v3 ⟨a3, c3, rfl, hb, hrow⟩
        have HT2 := hide ((unhide HT1).below hb)
        have HR3 := hide hrow
        clear hb hrow
        go_wp2_with (go_at_call 21; fail)
        refine (rready_any (unhide HT2).r).mono ?_
        rintro e v4 ⟨a4, c4, rfl, hb, hrow⟩
        have HT3 := hide ((unhide HT2).below hb)
        have HR4 := hide ((unhide HR3).below hb)
        have HR5 := hide hrow
        clear hb hrow
        go_wp2_with (go_at_call 19; fail)
        refine (ints_any _ a3 a4 c3 c4 v4 (unhide HR4) (unhide HR5) (by have := readyT_le LS 4; omega)).mono ?_
        rintro e v5 ⟨rfl, hb⟩
        have HT4 := hide ((unhide HT3).below hb)
        clear hb
        go_wp2
        go_roundg (gk - 1)
        case measure => have := unhide HZ; omega
        case rel => exact ⟨i + 1, _, LS, F3, G3, by go_num, by have := unhide HZ; omega, by have := unhide HZ; omega, unhide HT4⟩
      · have hw2 : (ow == 0) = false := by simpa using hw
        have hrl : ls.length = 4 := by
          obtain ⟨_, _, ht, _⟩ := unhide HS0
          exact ht.r.len
        go_wp2_with (go_at_call 14; fail)
        rcases next_both hrl on with ⟨hr, hn⟩ | ⟨i', y, l', hr, hi', hn⟩
        · refine ((unhide HS0).next_none on hn).mono ?_
          rintro e w3 ⟨rfl, hst⟩
          have E1 := hide hst
          have d1 : w3.cell? ⟨wr.heap.size, 2, none⟩ = some (.int .i64 on) := (hst.st.cell 2).trans (by rfl)
          have d2 : wr.heap.size < w3.heap.size := by obtain ⟨_, _, _, h2, _⟩ := hst.st; exact lt_of_block h2
          have HRN := hide hr
          clear hst hn hr
          simp only [tkZ, TkV.val, TkV.cells]
          go_wp2_with (go_at_call 15; fail)
          refine ((unhide E1).rnext_none (.cells #[.int .i64 0, .slice none 0 0, .slice none 0 0] 34) (unhide HRN) on).mono ?_
          rintro e w4 ⟨rfl, hst, hb7⟩
          obtain ⟨wB, hwB⟩ : ∃ wB, w4.alloc (.cells #[.int .i64 0, .slice none 0 0, .slice none 0 0] 34) = wB := ⟨_, rfl⟩
          have hbB : Below w4.heap.size w4 wB := by rw [← hwB]; exact below_new w4 _
          have E2 := hide (hst.below hbB)
          have hb10 : wB.heap[w4.heap.size]? = some (.cells #[.int .i64 0, .slice none 0 0, .slice none 0 0] 34 (0, 0)) := by rw [← hwB]; exact heap_alloc_new w4 _
          have hb7' := (hbB.block _ (lt_of_block hb7)).trans hb7
          have HK : Hid (∀ W', Below wB.heap.size wB W' → W'.cell? ⟨w3.heap.size, 0, none⟩ = some (.int .i64 0) ∧ W'.cell? ⟨w3.heap.size, 1, none⟩ = some (.slice none 0 0) ∧ W'.cell? ⟨w3.heap.size, 2, none⟩ = some (.slice none 0 0) ∧ W'.cell? ⟨w4.heap.size, 0, none⟩ = some (.int .i64 0) ∧ W'.cell? ⟨w4.heap.size, 1, none⟩ = some (.slice none 0 0) ∧ W'.cell? ⟨w4.heap.size, 2, none⟩ = some (.slice none 0 0)) := hide fun W' hb => by
            have e7 := (hb.block _ (lt_of_block hb7')).trans hb7'
            have e10 := (hb.block _ (lt_of_block hb10)).trans hb10
            exact ⟨(cell_of_row _ _ 0 _ _ _ e7).trans (by rfl), (cell_of_row _ _ 1 _ _ _ e7).trans (by rfl), (cell_of_row _ _ 2 _ _ _ e7).trans (by rfl), (cell_of_row _ _ 0 _ _ _ e10).trans (by rfl), (cell_of_row _ _ 1 _ _ _ e10).trans (by rfl), (cell_of_row _ _ 2 _ _ _ e10).trans (by rfl)⟩
          have HN1 : Hid (∀ W, Below wB.heap.size wB W → Calls Try.prog 16 #[.agg #[.int .i64 0, .slice none 0 0, .slice none 0 0]] W fun e w' => e = .returned (.int .i64 (-1)) ∧ Below W.heap.size W w') := hide fun W hb => number_any tk0 tkZ W (TkIn.z W (fun _ => True))
          have HN2 := HN1
          have HWB := hide hwB
          clear hst hb7 hbB hb10 hb7' hwB
          simp only [tkZ, TkV.val, TkV.cells]
          go_wp2_with fail
          rw [unhide HWB]
          go_region_held3 (fun W' => W'.cell? ⟨w3.heap.size, 0, none⟩ = some (.int .i64 0) ∧ W'.cell? ⟨w3.heap.size, 1, none⟩ = some (.slice none 0 0) ∧ W'.cell? ⟨w3.heap.size, 2, none⟩ = some (.slice none 0 0) ∧ W'.cell? ⟨w4.heap.size, 0, none⟩ = some (.int .i64 0) ∧ W'.cell? ⟨w4.heap.size, 1, none⟩ = some (.slice none 0 0) ∧ W'.cell? ⟨w4.heap.size, 2, none⟩ = some (.slice none 0 0))
            (first | exact (unhide HK) _ (unhide M2) | exact (unhide HK) _ (unhide M2).drew | exact (unhide HK) _ (unhide M1) | exact (unhide HK) _ (unhide M1).drew | exact (unhide HK) _ (Below.refl _ _) | exact (unhide HK) _ (Below.refl _ _).drew) (first
            | (have _x := unhide M1; clear _x; go_at_call 16; refine ((unhide HN2) _ ?_).mono ?_; (first | exact unhide M1 | exact (unhide M1).drew); rintro e w9 ⟨rfl, hb⟩; dsimp only; have M2 : Hid (Below wB.heap.size wB w9) := hide (by first | exact (unhide M1).trans (hb.mono (unhide M1).size) | exact (unhide M1).drew.trans (hb.mono (unhide M1).size)); clear hb)
            | (go_at_call 16; refine ((unhide HN1) _ ?_).mono ?_; (first | exact Below.refl _ _ | exact (Below.refl _ _).drew); rintro e w8 ⟨rfl, hb⟩; dsimp only; have M1 : Hid (Below wB.heap.size wB w8) := hide (by first | exact hb | exact (Below.refl _ _).drew.trans hb); clear hb))
          have HS := hide ((unhide E2).st.below (unhide M2))
          obtain ⟨F3, G3, ht, _⟩ := unhide HS
          have HT := hide ht
          clear ht
          go_wp2_with (go_at_call 17; fail)
          refine (len_any (unhide HT).q).mono ?_
          rw [qsOf_len]
          rintro e v1 ⟨rfl, hb⟩
          have HT1 := hide ((unhide HT).below hb)
          clear hb
          go_wp2_with (go_at_call 18; fail)
          refine (rlen_any (unhide HT1).r).mono ?_
          rintro e v2 ⟨rfl, rfl⟩
          go_wp2_with (go_at_call 20; fail)
          refine (ready_any (unhide HT1).q).mono ?_
          rw [qsOf_ready, ← toI_len]
          rintro e v3 ⟨a3, c3, rfl, hb, hrow⟩
          have HT2 := hide ((unhide HT1).below hb)
          have HR3 := hide hrow
          clear hb hrow
          go_wp2_with (go_at_call 21; fail)
          refine (rready_any (unhide HT2).r).mono ?_
          rintro e v4 ⟨a4, c4, rfl, hb, hrow⟩
          have HT3 := hide ((unhide HT2).below hb)
          have HR4 := hide ((unhide HR3).below hb)
          have HR5 := hide hrow
          clear hb hrow
          go_wp2_with (go_at_call 19; fail)
          refine (ints_any _ a3 a4 c3 c4 v4 (unhide HR4) (unhide HR5) (by have := readyT_le ls 4; omega)).mono ?_
          rintro e v5 ⟨rfl, hb⟩
          have HT4 := hide ((unhide HT3).below hb)
          clear hb
          go_wp2
          go_roundg (gk - 1)
          case measure => have := unhide HZ; omega
          case rel => exact ⟨i + 1, _, ls, F3, G3, by go_num, by have := unhide HZ; omega, by have := unhide HZ; omega, unhide HT4⟩
        · refine ((unhide HS0).next_some on hn).mono ?_
          rintro e w3 ⟨⟨x0, x1, x2, x3, x4, x5, x6⟩, rfl, hst⟩
          have E1 := hide hst
          have d1 : w3.cell? ⟨wr.heap.size, 2, none⟩ = some (.int .i64 on) := (hst.st.cell 2).trans (by rfl)
          have d2 : wr.heap.size < w3.heap.size := by obtain ⟨_, _, _, h2, _⟩ := hst.st; exact lt_of_block h2
          have HRN := hide (And.intro hr hi')
          clear hst hn hr hi'
          simp only [TkV.val, TkV.cells]
          go_wp2_with (go_at_call 15; fail)
          refine ((unhide E1).rnext_some (.cells #[.int .i64 x0, .slice x1 x2 x3, .slice x4 x5 x6] 34) on (unhide HRN).1 (unhide HRN).2).mono ?_
          rintro e w4 ⟨rfl, hst, hb7, hjb⟩
          obtain ⟨wB, hwB⟩ : ∃ wB, w4.alloc (.cells #[.int .i64 2, .slice none 0 0, .slice (some ⟨y.b, 0, none⟩) 1 1] 34) = wB := ⟨_, rfl⟩
          have hbB : Below w4.heap.size w4 wB := by rw [← hwB]; exact below_new w4 _
          have E2 := hide (hst.below hbB)
          have hb10 : wB.heap[w4.heap.size]? = some (.cells #[.int .i64 2, .slice none 0 0, .slice (some ⟨y.b, 0, none⟩) 1 1] 34 (0, 0)) := by rw [← hwB]; exact heap_alloc_new w4 _
          have hb7' := (hbB.block _ (lt_of_block hb7)).trans hb7
          have hjb' : JobAt wB y.b y.n := (hbB.block _ (lt_of_block hjb)).trans hjb
          have HK : Hid (∀ W', Below wB.heap.size wB W' → W'.cell? ⟨w3.heap.size, 0, none⟩ = some (.int .i64 x0) ∧ W'.cell? ⟨w3.heap.size, 1, none⟩ = some (.slice x1 x2 x3) ∧ W'.cell? ⟨w3.heap.size, 2, none⟩ = some (.slice x4 x5 x6) ∧ W'.cell? ⟨w4.heap.size, 0, none⟩ = some (.int .i64 2) ∧ W'.cell? ⟨w4.heap.size, 1, none⟩ = some (.slice none 0 0) ∧ W'.cell? ⟨w4.heap.size, 2, none⟩ = some (.slice (some ⟨y.b, 0, none⟩) 1 1)) := hide fun W' hb => by
            have e7 := (hb.block _ (lt_of_block hb7')).trans hb7'
            have e10 := (hb.block _ (lt_of_block hb10)).trans hb10
            exact ⟨(cell_of_row _ _ 0 _ _ _ e7).trans (by rfl), (cell_of_row _ _ 1 _ _ _ e7).trans (by rfl), (cell_of_row _ _ 2 _ _ _ e7).trans (by rfl), (cell_of_row _ _ 0 _ _ _ e10).trans (by rfl), (cell_of_row _ _ 1 _ _ _ e10).trans (by rfl), (cell_of_row _ _ 2 _ _ _ e10).trans (by rfl)⟩
          have HN1 : Hid (∀ W, Below wB.heap.size wB W → Calls Try.prog 16 #[.agg #[.int .i64 x0, .slice x1 x2 x3, .slice x4 x5 x6]] W fun e w' => e = .returned (.int .i64 y.n) ∧ Below W.heap.size W w') := hide fun W hb => number_any (tkJob y.n) ⟨x0, x1, x2, x3, x4, x5, x6⟩ W ((unhide E2).tk.below hb)
          have HN2 : Hid (∀ W, Below wB.heap.size wB W → Calls Try.prog 16 #[.agg #[.int .i64 2, .slice none 0 0, .slice (some ⟨y.b, 0, none⟩) 1 1]] W fun e w' => e = .returned (.int .i64 y.n) ∧ Below W.heap.size W w') := hide fun W hb => number_any (tkJob y.n) ⟨2, none, 0, 0, some ⟨y.b, 0, none⟩, 1, 1⟩ W (hjb'.tk.below hb)
          have HWB := hide hwB
          clear hst hb7 hbB hb10 hb7' hjb hjb' hwB
          simp only [Jb.val]
          go_wp2_with fail
          rw [unhide HWB]
          go_region_held3 (fun W' => W'.cell? ⟨w3.heap.size, 0, none⟩ = some (.int .i64 x0) ∧ W'.cell? ⟨w3.heap.size, 1, none⟩ = some (.slice x1 x2 x3) ∧ W'.cell? ⟨w3.heap.size, 2, none⟩ = some (.slice x4 x5 x6) ∧ W'.cell? ⟨w4.heap.size, 0, none⟩ = some (.int .i64 2) ∧ W'.cell? ⟨w4.heap.size, 1, none⟩ = some (.slice none 0 0) ∧ W'.cell? ⟨w4.heap.size, 2, none⟩ = some (.slice (some ⟨y.b, 0, none⟩) 1 1))
            (first | exact (unhide HK) _ (unhide M2) | exact (unhide HK) _ (unhide M2).drew | exact (unhide HK) _ (unhide M1) | exact (unhide HK) _ (unhide M1).drew | exact (unhide HK) _ (Below.refl _ _) | exact (unhide HK) _ (Below.refl _ _).drew) (first
            | (have _x := unhide M1; clear _x; go_at_call 16; refine ((unhide HN2) _ ?_).mono ?_; (first | exact unhide M1 | exact (unhide M1).drew); rintro e w9 ⟨rfl, hb⟩; dsimp only; have M2 : Hid (Below wB.heap.size wB w9) := hide (by first | exact (unhide M1).trans (hb.mono (unhide M1).size) | exact (unhide M1).drew.trans (hb.mono (unhide M1).size)); clear hb)
            | (go_at_call 16; refine ((unhide HN1) _ ?_).mono ?_; (first | exact Below.refl _ _ | exact (Below.refl _ _).drew); rintro e w8 ⟨rfl, hb⟩; dsimp only; have M1 : Hid (Below wB.heap.size wB w8) := hide (by first | exact hb | exact (Below.refl _ _).drew.trans hb); clear hb))
          have HS := hide ((unhide E2).st.below (unhide M2))
          obtain ⟨F3, G3, ht, _⟩ := unhide HS
          have HT := hide ht
          clear ht
          go_wp2_with (go_at_call 17; fail)
          refine (len_any (unhide HT).q).mono ?_
          rw [qsOf_len]
          rintro e v1 ⟨rfl, hb⟩
          have HT1 := hide ((unhide HT).below hb)
          clear hb
          go_wp2_with (go_at_call 18; fail)
          refine (rlen_any (unhide HT1).r).mono ?_
          rintro e v2 ⟨rfl, rfl⟩
          go_wp2_with (go_at_call 20; fail)
          refine (ready_any (unhide HT1).q).mono ?_
          rw [qsOf_ready, ← toI_len]
          rintro e v3 ⟨a3, c3, rfl, hb, hrow⟩
          have HT2 := hide ((unhide HT1).below hb)
          have HR3 := hide hrow
          clear hb hrow
          go_wp2_with (go_at_call 21; fail)
          refine (rready_any (unhide HT2).r).mono ?_
          rintro e v4 ⟨a4, c4, rfl, hb, hrow⟩
          have HT3 := hide ((unhide HT2).below hb)
          have HR4 := hide ((unhide HR3).below hb)
          have HR5 := hide hrow
          clear hb hrow
          go_wp2_with (go_at_call 19; fail)
          refine (ints_any _ a3 a4 c3 c4 v4 (unhide HR4) (unhide HR5) (by have := readyT_le (ls.set i' l') 4; omega)).mono ?_
          rintro e v5 ⟨rfl, hb⟩
          have HT4 := hide ((unhide HT3).below hb)
          clear hb
          go_wp2
          go_roundg (gk - 1)
          case measure => have := unhide HZ; omega
          case rel => exact ⟨i + 1, _, (ls.set i' l'), F3, G3, by go_num, by have := unhide HZ; omega, by have := unhide HZ; omega, unhide HT4⟩
    · have hzl : ¬ z < (l.length : Int) := by omega
      have HBL := hide hboth.bel
      clear hz hik hi hboth
      go_wp2_with (go_at_call 22; fail)
      refine (awake_two _).mono ?_
      rintro e w9 ⟨rfl, hb⟩
      have HB9 := hide ((unhide HBL).trans (hb.mono (unhide HBL).size))
      clear hb
      go_wp2
      go_ret
      exact ⟨rfl, unhide HB9⟩
end Go.Proofs.Ytdfcdgjmjionbaa
