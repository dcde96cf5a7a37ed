/-
  Package quirk: whether the public identifier begins with one of a table's texts; isOld; Good.
-/
import Derived.Test.YtnnegdcoihcanaaQc
namespace Go.Proofs.Ytnnegdcoihcanaa
open Go.RowKit Go.Lib

theorem eg17 : ∀ args w, (callFunc 17 args).run Try.prog w = .ok (.enter 17 args) w := enters_of Try.func17 (by kernel_rfl) rfl
theorem eg18 : ∀ args w, (callFunc 18 args).run Try.prog w = .ok (.enter 18 args) w := enters_of Try.func18 (by kernel_rfl) rfl
theorem eg21 : ∀ args w, (callFunc 21 args).run Try.prog w = .ok (.enter 21 args) w := enters_of Try.func21 (by kernel_rfl) rfl

theorem TokAt.dn {w : World} {B : Nat} {k : Int} {nm da sy : ByteArray} {hs : Int} {qk : Bool} {ch : Int} {se : Bool} {a : Option Addr} {len cap : Nat} (h : TokAt w B k nm da sy hs qk ch se a len cap) (q : Nat) : TokAt (w.drewN q) B k nm da sy hs qk ch se a len cap := ⟨h.c0, h.c1, h.c2, h.c3, h.c4, h.c5, h.c6, h.c7, h.c8, h.lt⟩

section
variable (k : Int) (nm da sy : ByteArray) (hs : Int) (qk : Bool) (ch : Int) (se : Bool) (a : Option Addr) (len cap : Nat)

set_option maxHeartbeats 1000000 in
theorem ask_any (w : World) (B C T n : Nat) (l : List ByteArray) (hq : AskAt w B C k nm da sy hs qk ch se a len cap) (ht : TabAt w T l) (hl : l.length ≤ 1000) (hn : l.length = n) (hd : (da.size : Int) ≤ 140737488355328) :
    Calls Try.prog 18 #[.slice (some ⟨T, 0, none⟩) n n, .pointer (some ⟨B, 0, none⟩), .pointer (some ⟨C, 0, none⟩)] w fun e w' => e = .returned (.bool (hasB hs 2 && l.any (begM da))) ∧ Below w.heap.size w w' := by
  subst hn
  have HH := hide (has_any k nm da sy hs qk ch se a len cap 2)
  have HQ := hide hq
  have HC := hide (fun W (hW : Below w.heap.size w W) => contains_any (begM da) 17 B T eg17 l hl W (fun W' s hb => begun_any da s B W' hd ((((hq.below hW).below hb).tok).c2)) (ht.below hW).cells)
  generalize l.any (begM da) = r at HC
  generalize hasB hs 2 = b at HH
  obtain ⟨⟨c0, c1, c2, c3, c4, c5, c6, c7, c8, c9⟩, f0, f1⟩ := hq
  clear hd hl ht c9 f1
  cases b with
  | true =>
    go_enter Try.func18, Try.ntmps18
    go_wp2_with (first | (go_at_call 14; refine (unhide HH _).mono ?_; rintro e w1 ⟨rfl, hb1⟩; have HB1 := hide hb1; have f2 := ((unhide HQ).below hb1).fn; clear hb1) | (go_at_call 19; refine (unhide HC _ (unhide HB1)).mono ?_; rintro e w2 ⟨rfl, q, rfl⟩))
    go_ret
    exact ⟨rfl, below_dn (unhide HB1) _⟩
  | false =>
    go_enter Try.func18, Try.ntmps18
    go_wp2_with (first | (go_at_call 14; refine (unhide HH _).mono ?_; rintro e w1 ⟨rfl, hb1⟩; have HB1 := hide hb1; clear hb1))
    go_ret
    exact ⟨rfl, unhide HB1⟩

def ibm : ByteArray := ⟨#[104, 116, 116, 112, 58, 47, 47, 119, 119, 119, 46, 105, 98, 109, 46, 99, 111, 109, 47, 100, 97, 116, 97, 47, 100, 116, 100, 47, 118, 49, 49, 47, 105, 98, 109, 120, 104, 116, 109, 108, 49, 45, 116, 114, 97, 110, 115, 105, 116, 105, 111, 110, 97, 108, 46, 100, 116, 100]⟩
def oldM (da sy : ByteArray) (hs : Int) : Bool := (hasB hs 4 && sameM sy ibm) || (hasB hs 2 && wholes.any (sameM da))


set_option maxHeartbeats 2000000 in
theorem old_tt (w : World) (hz : (sy.size : Int) ≤ 140737488355328) (h4 : hasB hs 4 = true) (hsm : sameM sy ibm = true) : Calls Try.prog 11 #[.agg #[.int .i64 k, .string nm, .string da, .string sy, .int .i64 hs, .bool qk, .int .i32 ch, .bool se, .slice a len cap]] w fun e w' => e = .returned (.bool true) ∧ Below w.heap.size w w' := by
  have HH4 := hide (has_any k nm da sy hs qk ch se a len cap 4)
  rw [h4] at HH4
  have HT := hide (tok_new k nm da sy hs qk ch se a len cap w)
  have HB := hide (below_new w (.cells #[.int .i64 k, .string nm, .string da, .string sy, .int .i64 hs, .bool qk, .int .i32 ch, .bool se, .slice a len cap] 24))
  have HS := hide (fun W => same_any sy ibm W (by omega))
  rw [hsm] at HS
  unfold ibm at HS
  clear hz h4 hsm
  go_enter Try.func11, Try.ntmps11
  go_wp2_with (first | (go_at_call 16; refine (unhide HS _).mono ?_; rintro e w2 ⟨rfl, q, rfl⟩) | (go_at_call 14; refine (unhide HH4 _).mono ?_; rintro e w1 ⟨rfl, hb1⟩; have HB1 := hide ((unhide HB).trans (hb1.mono (unhide HB).size)); have HT1 := hide ((unhide HT).below hb1); obtain ⟨c0, c1, c2, c3, c4, c5, c6, c7, c8, c9⟩ := unhide HT1; clear hb1 c9))
  go_ret
  exact ⟨rfl, below_dn (unhide HB1) _⟩

set_option maxHeartbeats 2000000 in
theorem old_tft (w : World) (hz : (sy.size : Int) ≤ 140737488355328) (hd : (da.size : Int) ≤ 140737488355328) (h4 : hasB hs 4 = true) (hsm : sameM sy ibm = false) (h2 : hasB hs 2 = true) : Calls Try.prog 11 #[.agg #[.int .i64 k, .string nm, .string da, .string sy, .int .i64 hs, .bool qk, .int .i32 ch, .bool se, .slice a len cap]] w fun e w' => e = .returned (.bool (wholes.any (sameM da))) ∧ Below w.heap.size w w' := by
  have HH4 := hide (has_any k nm da sy hs qk ch se a len cap 4)
  rw [h4] at HH4
  have HT := hide (tok_new k nm da sy hs qk ch se a len cap w)
  have HB := hide (below_new w (.cells #[.int .i64 k, .string nm, .string da, .string sy, .int .i64 hs, .bool qk, .int .i32 ch, .bool se, .slice a len cap] 24))
  have HS := hide (fun W => same_any sy ibm W (by omega))
  rw [hsm] at HS
  unfold ibm at HS
  have HH2 := hide (has_any k nm da sy hs qk ch se a len cap 2)
  rw [h2] at HH2
  have HC := hide (fun W (hT : TokAt W w.heap.size k nm da sy hs qk ch se a len cap) => contains_any (sameM da) 21 w.heap.size W.heap.size eg21 wholes (by decide) (W.alloc (.cells (sRow wholes) 9)) (fun W' s hb => whole_any da s w.heap.size W' hd (((hT.below (below_new _ _)).below hb).c2)) (tab_new W wholes).cells)
  generalize wholes.any (sameM da) = r at HC
  clear hz hd h4 hsm h2
  go_enter Try.func11, Try.ntmps11
  go_wp2_with (first | (go_at_call 16; refine (unhide HS _).mono ?_; rintro e w2 ⟨rfl, q, rfl⟩) | (go_at_call 14; have _x := unhide HB1; refine (unhide HH2 _).mono ?_; rintro e w3 ⟨rfl, hb3⟩; have HB3 := hide ((below_dn (unhide HB1) q).trans (hb3.mono (below_dn (unhide HB1) q).size)); have HT3 := hide (((unhide HT1).dn q).below hb3); clear hb3) | (go_at_call 20; refine (wholes_any _).mono ?_; rintro e w4 ⟨rfl, rfl⟩) | (go_at_call 19; refine (unhide HC _ (unhide HT3)).mono ?_; rintro e w5 ⟨rfl, r1, rfl⟩) | (go_at_call 14; refine (unhide HH4 _).mono ?_; rintro e w1 ⟨rfl, hb1⟩; have HB1 := hide ((unhide HB).trans (hb1.mono (unhide HB).size)); have HT1 := hide ((unhide HT).below hb1); obtain ⟨c0, c1, c2, c3, c4, c5, c6, c7, c8, c9⟩ := unhide HT1; clear hb1 c9))
  go_ret
  exact ⟨rfl, below_dn ((unhide HB3).alloc (unhide HB3).size _) _⟩

set_option maxHeartbeats 2000000 in
theorem old_tff (w : World) (hz : (sy.size : Int) ≤ 140737488355328) (h4 : hasB hs 4 = true) (hsm : sameM sy ibm = false) (h2 : hasB hs 2 = false) : Calls Try.prog 11 #[.agg #[.int .i64 k, .string nm, .string da, .string sy, .int .i64 hs, .bool qk, .int .i32 ch, .bool se, .slice a len cap]] w fun e w' => e = .returned (.bool false) ∧ Below w.heap.size w w' := by
  have HH4 := hide (has_any k nm da sy hs qk ch se a len cap 4)
  rw [h4] at HH4
  have HT := hide (tok_new k nm da sy hs qk ch se a len cap w)
  have HB := hide (below_new w (.cells #[.int .i64 k, .string nm, .string da, .string sy, .int .i64 hs, .bool qk, .int .i32 ch, .bool se, .slice a len cap] 24))
  have HS := hide (fun W => same_any sy ibm W (by omega))
  rw [hsm] at HS
  unfold ibm at HS
  have HH2 := hide (has_any k nm da sy hs qk ch se a len cap 2)
  rw [h2] at HH2
  clear hz h4 hsm h2
  go_enter Try.func11, Try.ntmps11
  go_wp2_with (first | (go_at_call 16; refine (unhide HS _).mono ?_; rintro e w2 ⟨rfl, q, rfl⟩) | (go_at_call 14; have _x := unhide HB1; refine (unhide HH2 _).mono ?_; rintro e w3 ⟨rfl, hb3⟩; have HB3 := hide ((below_dn (unhide HB1) q).trans (hb3.mono (below_dn (unhide HB1) q).size)); have HT3 := hide (((unhide HT1).dn q).below hb3); clear hb3) | (go_at_call 14; refine (unhide HH4 _).mono ?_; rintro e w1 ⟨rfl, hb1⟩; have HB1 := hide ((unhide HB).trans (hb1.mono (unhide HB).size)); have HT1 := hide ((unhide HT).below hb1); obtain ⟨c0, c1, c2, c3, c4, c5, c6, c7, c8, c9⟩ := unhide HT1; clear hb1 c9))
  go_ret
  exact ⟨rfl, unhide HB3⟩

set_option maxHeartbeats 2000000 in
theorem old_ft (w : World) (hd : (da.size : Int) ≤ 140737488355328) (h4 : hasB hs 4 = false) (h2 : hasB hs 2 = true) : Calls Try.prog 11 #[.agg #[.int .i64 k, .string nm, .string da, .string sy, .int .i64 hs, .bool qk, .int .i32 ch, .bool se, .slice a len cap]] w fun e w' => e = .returned (.bool (wholes.any (sameM da))) ∧ Below w.heap.size w w' := by
  have HH4 := hide (has_any k nm da sy hs qk ch se a len cap 4)
  rw [h4] at HH4
  have HT := hide (tok_new k nm da sy hs qk ch se a len cap w)
  have HB := hide (below_new w (.cells #[.int .i64 k, .string nm, .string da, .string sy, .int .i64 hs, .bool qk, .int .i32 ch, .bool se, .slice a len cap] 24))
  have HH2 := hide (has_any k nm da sy hs qk ch se a len cap 2)
  rw [h2] at HH2
  have HC := hide (fun W (hT : TokAt W w.heap.size k nm da sy hs qk ch se a len cap) => contains_any (sameM da) 21 w.heap.size W.heap.size eg21 wholes (by decide) (W.alloc (.cells (sRow wholes) 9)) (fun W' s hb => whole_any da s w.heap.size W' hd (((hT.below (below_new _ _)).below hb).c2)) (tab_new W wholes).cells)
  generalize wholes.any (sameM da) = r at HC
  clear hd h4 h2
  go_enter Try.func11, Try.ntmps11
  go_wp2_with (first | (go_at_call 14; have _x := unhide HB1; refine (unhide HH2 _).mono ?_; rintro e w3 ⟨rfl, hb3⟩; have HB3 := hide ((unhide HB1).trans (hb3.mono (unhide HB1).size)); have HT3 := hide ((unhide HT1).below hb3); clear hb3) | (go_at_call 20; refine (wholes_any _).mono ?_; rintro e w4 ⟨rfl, rfl⟩) | (go_at_call 19; refine (unhide HC _ (unhide HT3)).mono ?_; rintro e w5 ⟨rfl, r1, rfl⟩) | (go_at_call 14; refine (unhide HH4 _).mono ?_; rintro e w1 ⟨rfl, hb1⟩; have HB1 := hide ((unhide HB).trans (hb1.mono (unhide HB).size)); have HT1 := hide ((unhide HT).below hb1); obtain ⟨c0, c1, c2, c3, c4, c5, c6, c7, c8, c9⟩ := unhide HT1; clear hb1 c9))
  go_ret
  exact ⟨rfl, below_dn ((unhide HB3).alloc (unhide HB3).size _) _⟩

set_option maxHeartbeats 2000000 in
theorem old_ff (w : World) (h4 : hasB hs 4 = false) (h2 : hasB hs 2 = false) : Calls Try.prog 11 #[.agg #[.int .i64 k, .string nm, .string da, .string sy, .int .i64 hs, .bool qk, .int .i32 ch, .bool se, .slice a len cap]] w fun e w' => e = .returned (.bool false) ∧ Below w.heap.size w w' := by
  have HH4 := hide (has_any k nm da sy hs qk ch se a len cap 4)
  rw [h4] at HH4
  have HT := hide (tok_new k nm da sy hs qk ch se a len cap w)
  have HB := hide (below_new w (.cells #[.int .i64 k, .string nm, .string da, .string sy, .int .i64 hs, .bool qk, .int .i32 ch, .bool se, .slice a len cap] 24))
  have HH2 := hide (has_any k nm da sy hs qk ch se a len cap 2)
  rw [h2] at HH2
  clear h4 h2
  go_enter Try.func11, Try.ntmps11
  go_wp2_with (first | (go_at_call 14; have _x := unhide HB1; refine (unhide HH2 _).mono ?_; rintro e w3 ⟨rfl, hb3⟩; have HB3 := hide ((unhide HB1).trans (hb3.mono (unhide HB1).size)); have HT3 := hide ((unhide HT1).below hb3); clear hb3) | (go_at_call 14; refine (unhide HH4 _).mono ?_; rintro e w1 ⟨rfl, hb1⟩; have HB1 := hide ((unhide HB).trans (hb1.mono (unhide HB).size)); have HT1 := hide ((unhide HT).below hb1); obtain ⟨c0, c1, c2, c3, c4, c5, c6, c7, c8, c9⟩ := unhide HT1; clear hb1 c9))
  go_ret
  exact ⟨rfl, unhide HB3⟩

theorem isOld_any (w : World) (hz : (sy.size : Int) ≤ 140737488355328) (hd : (da.size : Int) ≤ 140737488355328) : Calls Try.prog 11 #[.agg #[.int .i64 k, .string nm, .string da, .string sy, .int .i64 hs, .bool qk, .int .i32 ch, .bool se, .slice a len cap]] w fun e w' => e = .returned (.bool (oldM da sy hs)) ∧ Below w.heap.size w w' := by
  unfold oldM
  cases h4 : hasB hs 4 with
  | true =>
    cases hsm : sameM sy ibm with
    | true => exact old_tt k nm da sy hs qk ch se a len cap w hz h4 hsm
    | false =>
      cases h2 : hasB hs 2 with
      | true => exact old_tft k nm da sy hs qk ch se a len cap w hz hd h4 hsm h2
      | false => exact old_tff k nm da sy hs qk ch se a len cap w hz h4 hsm h2
  | false =>
    cases h2 : hasB hs 2 with
    | true => exact old_ft k nm da sy hs qk ch se a len cap w hd h4 h2
    | false => exact old_ff k nm da sy hs qk ch se a len cap w h4 h2

def legacy : ByteArray := ⟨#[97, 98, 111, 117, 116, 58, 108, 101, 103, 97, 99, 121, 45, 99, 111, 109, 112, 97, 116]⟩
def goodM (k : Int) (nm sy : ByteArray) (hs : Int) : Bool := !(k != 0) && hasB hs 1 && (nm.toList == [104, 116, 109, 108]) && !hasB hs 2 && (!hasB hs 4 || sameM sy legacy)

set_option maxHeartbeats 2000000 in
theorem good_1 (w : World) (hk : (k != 0) = true) : Calls Try.prog 7 #[.agg #[.int .i64 k, .string nm, .string da, .string sy, .int .i64 hs, .bool qk, .int .i32 ch, .bool se, .slice a len cap]] w fun e w' => e = .returned (.bool false) ∧ Below w.heap.size w w' := by
  have HT := hide (tok_new k nm da sy hs qk ch se a len cap w)
  have HB := hide (below_new w (.cells #[.int .i64 k, .string nm, .string da, .string sy, .int .i64 hs, .bool qk, .int .i32 ch, .bool se, .slice a len cap] 24))
  go_enter Try.func7, Try.ntmps7
  go_wp2
  go_ret
  exact ⟨rfl, unhide HB⟩

set_option maxHeartbeats 2000000 in
theorem good_2 (w : World) (hk : (k != 0) = false) (h1 : hasB hs 1 = false) : Calls Try.prog 7 #[.agg #[.int .i64 k, .string nm, .string da, .string sy, .int .i64 hs, .bool qk, .int .i32 ch, .bool se, .slice a len cap]] w fun e w' => e = .returned (.bool false) ∧ Below w.heap.size w w' := by
  have HT := hide (tok_new k nm da sy hs qk ch se a len cap w)
  have HB := hide (below_new w (.cells #[.int .i64 k, .string nm, .string da, .string sy, .int .i64 hs, .bool qk, .int .i32 ch, .bool se, .slice a len cap] 24))
  have HH1 := hide (has_any k nm da sy hs qk ch se a len cap 1)
  rw [h1] at HH1
  clear h1
  go_enter Try.func7, Try.ntmps7
  go_wp2_with (first | (go_at_call 14; refine (unhide HH1 _).mono ?_; rintro e w1 ⟨rfl, hb1⟩; have HB1 := hide ((unhide HB).trans (hb1.mono (unhide HB).size)); have HT1 := hide ((unhide HT).below hb1); obtain ⟨c0, c1, c2, c3, c4, c5, c6, c7, c8, c9⟩ := unhide HT1; clear hb1 c9))
  go_ret
  exact ⟨rfl, unhide HB1⟩

set_option maxHeartbeats 2000000 in
theorem good_3 (w : World) (hk : (k != 0) = false) (h1 : hasB hs 1 = true) (hm : (nm.toList == [104, 116, 109, 108]) = false) : Calls Try.prog 7 #[.agg #[.int .i64 k, .string nm, .string da, .string sy, .int .i64 hs, .bool qk, .int .i32 ch, .bool se, .slice a len cap]] w fun e w' => e = .returned (.bool false) ∧ Below w.heap.size w w' := by
  have HT := hide (tok_new k nm da sy hs qk ch se a len cap w)
  have HB := hide (below_new w (.cells #[.int .i64 k, .string nm, .string da, .string sy, .int .i64 hs, .bool qk, .int .i32 ch, .bool se, .slice a len cap] 24))
  have HH1 := hide (has_any k nm da sy hs qk ch se a len cap 1)
  rw [h1] at HH1
  clear h1
  go_enter Try.func7, Try.ntmps7
  go_wp2_with (first | (go_at_call 14; refine (unhide HH1 _).mono ?_; rintro e w1 ⟨rfl, hb1⟩; have HB1 := hide ((unhide HB).trans (hb1.mono (unhide HB).size)); have HT1 := hide ((unhide HT).below hb1); obtain ⟨c0, c1, c2, c3, c4, c5, c6, c7, c8, c9⟩ := unhide HT1; clear hb1 c9))
  go_ret
  exact ⟨rfl, unhide HB1⟩

set_option maxHeartbeats 2000000 in
theorem good_4 (w : World) (hk : (k != 0) = false) (h1 : hasB hs 1 = true) (hm : (nm.toList == [104, 116, 109, 108]) = true) (h2 : hasB hs 2 = true) : Calls Try.prog 7 #[.agg #[.int .i64 k, .string nm, .string da, .string sy, .int .i64 hs, .bool qk, .int .i32 ch, .bool se, .slice a len cap]] w fun e w' => e = .returned (.bool false) ∧ Below w.heap.size w w' := by
  have HT := hide (tok_new k nm da sy hs qk ch se a len cap w)
  have HB := hide (below_new w (.cells #[.int .i64 k, .string nm, .string da, .string sy, .int .i64 hs, .bool qk, .int .i32 ch, .bool se, .slice a len cap] 24))
  have HH1 := hide (has_any k nm da sy hs qk ch se a len cap 1)
  rw [h1] at HH1
  have HH2 := hide (has_any k nm da sy hs qk ch se a len cap 2)
  rw [h2] at HH2
  clear h1 h2
  go_enter Try.func7, Try.ntmps7
  go_wp2_with (first | (go_at_call 14; have _x := unhide HB1; refine (unhide HH2 _).mono ?_; rintro e w2 ⟨rfl, hb2⟩; have HB2 := hide ((unhide HB1).trans (hb2.mono (unhide HB1).size)); have HT2 := hide ((unhide HT1).below hb2); obtain ⟨c0, c1, c2, c3, c4, c5, c6, c7, c8, c9⟩ := unhide HT2; clear hb2 c9) | (go_at_call 14; refine (unhide HH1 _).mono ?_; rintro e w1 ⟨rfl, hb1⟩; have HB1 := hide ((unhide HB).trans (hb1.mono (unhide HB).size)); have HT1 := hide ((unhide HT).below hb1); obtain ⟨c0, c1, c2, c3, c4, c5, c6, c7, c8, c9⟩ := unhide HT1; clear hb1 c9))
  go_ret
  exact ⟨rfl, unhide HB2⟩

set_option maxHeartbeats 2000000 in
theorem good_5 (w : World) (hk : (k != 0) = false) (h1 : hasB hs 1 = true) (hm : (nm.toList == [104, 116, 109, 108]) = true) (h2 : hasB hs 2 = false) (h4 : hasB hs 4 = false) : Calls Try.prog 7 #[.agg #[.int .i64 k, .string nm, .string da, .string sy, .int .i64 hs, .bool qk, .int .i32 ch, .bool se, .slice a len cap]] w fun e w' => e = .returned (.bool true) ∧ Below w.heap.size w w' := by
  have HT := hide (tok_new k nm da sy hs qk ch se a len cap w)
  have HB := hide (below_new w (.cells #[.int .i64 k, .string nm, .string da, .string sy, .int .i64 hs, .bool qk, .int .i32 ch, .bool se, .slice a len cap] 24))
  have HH1 := hide (has_any k nm da sy hs qk ch se a len cap 1)
  rw [h1] at HH1
  have HH2 := hide (has_any k nm da sy hs qk ch se a len cap 2)
  rw [h2] at HH2
  have HH4 := hide (has_any k nm da sy hs qk ch se a len cap 4)
  rw [h4] at HH4
  clear h1 h2 h4
  go_enter Try.func7, Try.ntmps7
  go_wp2_with (first | (go_at_call 14; have _x := unhide HB2; refine (unhide HH4 _).mono ?_; rintro e w3 ⟨rfl, hb3⟩; have HB3 := hide ((unhide HB2).trans (hb3.mono (unhide HB2).size)); have HT3 := hide ((unhide HT2).below hb3); obtain ⟨c0, c1, c2, c3, c4, c5, c6, c7, c8, c9⟩ := unhide HT3; clear hb3 c9) | (go_at_call 14; have _x := unhide HB1; refine (unhide HH2 _).mono ?_; rintro e w2 ⟨rfl, hb2⟩; have HB2 := hide ((unhide HB1).trans (hb2.mono (unhide HB1).size)); have HT2 := hide ((unhide HT1).below hb2); obtain ⟨c0, c1, c2, c3, c4, c5, c6, c7, c8, c9⟩ := unhide HT2; clear hb2 c9) | (go_at_call 14; refine (unhide HH1 _).mono ?_; rintro e w1 ⟨rfl, hb1⟩; have HB1 := hide ((unhide HB).trans (hb1.mono (unhide HB).size)); have HT1 := hide ((unhide HT).below hb1); obtain ⟨c0, c1, c2, c3, c4, c5, c6, c7, c8, c9⟩ := unhide HT1; clear hb1 c9))
  go_ret
  exact ⟨rfl, unhide HB3⟩

set_option maxHeartbeats 2000000 in
theorem good_6 (w : World) (hk : (k != 0) = false) (h1 : hasB hs 1 = true) (hm : (nm.toList == [104, 116, 109, 108]) = true) (h2 : hasB hs 2 = false) (h4 : hasB hs 4 = true) (hz : (sy.size : Int) ≤ 140737488355328) : Calls Try.prog 7 #[.agg #[.int .i64 k, .string nm, .string da, .string sy, .int .i64 hs, .bool qk, .int .i32 ch, .bool se, .slice a len cap]] w fun e w' => e = .returned (.bool (sameM sy legacy)) ∧ Below w.heap.size w w' := by
  have HT := hide (tok_new k nm da sy hs qk ch se a len cap w)
  have HB := hide (below_new w (.cells #[.int .i64 k, .string nm, .string da, .string sy, .int .i64 hs, .bool qk, .int .i32 ch, .bool se, .slice a len cap] 24))
  have HH1 := hide (has_any k nm da sy hs qk ch se a len cap 1)
  rw [h1] at HH1
  have HH2 := hide (has_any k nm da sy hs qk ch se a len cap 2)
  rw [h2] at HH2
  have HH4 := hide (has_any k nm da sy hs qk ch se a len cap 4)
  rw [h4] at HH4
  have HS := hide (fun W => same_any sy legacy W (by omega))
  generalize sameM sy legacy = r at HS
  unfold legacy at HS
  clear h1 h2 h4 hz
  go_enter Try.func7, Try.ntmps7
  go_wp2_with (first | (go_at_call 14; have _x := unhide HB2; refine (unhide HH4 _).mono ?_; rintro e w3 ⟨rfl, hb3⟩; have HB3 := hide ((unhide HB2).trans (hb3.mono (unhide HB2).size)); have HT3 := hide ((unhide HT2).below hb3); obtain ⟨c0, c1, c2, c3, c4, c5, c6, c7, c8, c9⟩ := unhide HT3; clear hb3 c9) | (go_at_call 14; have _x := unhide HB1; refine (unhide HH2 _).mono ?_; rintro e w2 ⟨rfl, hb2⟩; have HB2 := hide ((unhide HB1).trans (hb2.mono (unhide HB1).size)); have HT2 := hide ((unhide HT1).below hb2); obtain ⟨c0, c1, c2, c3, c4, c5, c6, c7, c8, c9⟩ := unhide HT2; clear hb2 c9) | (go_at_call 14; refine (unhide HH1 _).mono ?_; rintro e w1 ⟨rfl, hb1⟩; have HB1 := hide ((unhide HB).trans (hb1.mono (unhide HB).size)); have HT1 := hide ((unhide HT).below hb1); obtain ⟨c0, c1, c2, c3, c4, c5, c6, c7, c8, c9⟩ := unhide HT1; clear hb1 c9) | (go_at_call 16; refine (unhide HS _).mono ?_; rintro e w9 ⟨rfl, q, rfl⟩))
  go_ret
  exact ⟨rfl, below_dn (unhide HB3) _⟩

theorem good_any (w : World) (hz : (sy.size : Int) ≤ 140737488355328) : Calls Try.prog 7 #[.agg #[.int .i64 k, .string nm, .string da, .string sy, .int .i64 hs, .bool qk, .int .i32 ch, .bool se, .slice a len cap]] w fun e w' => e = .returned (.bool (goodM k nm sy hs)) ∧ Below w.heap.size w w' := by
  unfold goodM
  cases hk : (k != 0) with
  | true => exact good_1 k nm da sy hs qk ch se a len cap w hk
  | false =>
    cases h1 : hasB hs 1 with
    | false => exact good_2 k nm da sy hs qk ch se a len cap w hk h1
    | true =>
      cases hm : (nm.toList == [104, 116, 109, 108]) with
      | false => exact good_3 k nm da sy hs qk ch se a len cap w hk h1 hm
      | true =>
        cases h2 : hasB hs 2 with
        | true => exact good_4 k nm da sy hs qk ch se a len cap w hk h1 hm h2
        | false =>
          cases h4 : hasB hs 4 with
          | false => exact good_5 k nm da sy hs qk ch se a len cap w hk h1 hm h2 h4
          | true => exact good_6 k nm da sy hs qk ch se a len cap w hk h1 hm h2 h4 hz
end
end Go.Proofs.Ytnnegdcoihcanaa
