/-
  Package quirk: Mode.
-/
import Derived.Test.YtnnegdcoihcanaaQd
namespace Go.Proofs.Ytnnegdcoihcanaa
open Go.RowKit Go.Lib

/-- While Mode runs: its own doctype, and the question. -/
structure ModeAt (w wi : World) (B C : Nat) (k : Int) (nm da sy : ByteArray) (hs : Int) (qk : Bool) (ch : Int) (se : Bool) (a : Option Addr) (len cap : Nat) : Prop where
  tok : TokAt wi w.heap.size k nm da sy hs qk ch se a len cap
  ask : AskAt wi B C k nm da sy hs qk ch se a len cap
  bel : Below w.heap.size w wi
theorem ModeAt.below {w wi wj : World} {B C : Nat} {k : Int} {nm da sy : ByteArray} {hs : Int} {qk : Bool} {ch : Int} {se : Bool} {a : Option Addr} {len cap : Nat} (h : ModeAt w wi B C k nm da sy hs qk ch se a len cap) (hb : Below wi.heap.size wi wj) : ModeAt w wj B C k nm da sy hs qk ch se a len cap :=
  ⟨h.tok.below hb, h.ask.below hb, h.bel.trans (hb.mono h.bel.size)⟩

def begsM (da : ByteArray) (hs : Int) (l : List ByteArray) : Bool := hasB hs 2 && l.any (begM da)

section
variable (k : Int) (nm da sy : ByteArray) (hs : Int) (qk : Bool) (ch : Int) (se : Bool) (a : Option Addr) (len cap : Nat)

theorem ask_new {w W : World} {B C : Nat} (l : List ByteArray) (n : Nat) (hn : l.length = n) (hl : l.length ≤ 1000) (hd : (da.size : Int) ≤ 140737488355328) (h : ModeAt w W B C k nm da sy hs qk ch se a len cap) :
    Calls Try.prog 18 #[.slice (some ⟨W.heap.size, 0, none⟩) n n, .pointer (some ⟨B, 0, none⟩), .pointer (some ⟨C, 0, none⟩)] (W.alloc (.cells (sRow l) 9)) fun e w' => e = .returned (.bool (begsM da hs l)) ∧ ModeAt w w' B C k nm da sy hs qk ch se a len cap := by
  refine (ask_any k nm da sy hs qk ch se a len cap _ B C W.heap.size n l ((h.below (below_new W _)).ask) (tab_new W l) hl hn hd).mono ?_
  rintro e w' ⟨rfl, hb⟩
  exact ⟨rfl, (h.below (below_new W _)).below hb⟩

theorem public_new (w : World) : Calls Try.prog 9 #[.agg #[.int .i64 k, .string nm, .string da, .string sy, .int .i64 hs, .bool qk, .int .i32 ch, .bool se, .slice a len cap]] (w.alloc (.cells #[.int .i64 k, .string nm, .string da, .string sy, .int .i64 hs, .bool qk, .int .i32 ch, .bool se, .slice a len cap] 24)) fun e w' => ∃ B C, e = .returned (.func (.func 18) #[] #[.pointer (some ⟨B, 0, none⟩), .pointer (some ⟨C, 0, none⟩)]) ∧ ModeAt w w' B C k nm da sy hs qk ch se a len cap := by
  refine (public_any k nm da sy hs qk ch se a len cap _).mono ?_
  rintro e w' ⟨rfl, hq, hb⟩
  exact ⟨_, _, rfl, (tok_new k nm da sy hs qk ch se a len cap w).below hb, hq, (below_new w _).trans (hb.mono (below_new w _).size)⟩

set_option maxHeartbeats 4000000 in
theorem mode_1 (w : World) (hk : (k != 0) = true) : Calls Try.prog 6 #[.agg #[.int .i64 k, .string nm, .string da, .string sy, .int .i64 hs, .bool qk, .int .i32 ch, .bool se, .slice a len cap]] w fun e w' => e = .returned (.int .i64 2) ∧ Below w.heap.size w w' := by
  have HP := hide (public_new k nm da sy hs qk ch se a len cap w)
  have e18 := eg18
  go_enter Try.func6, Try.ntmps6
  go_wp2_with (first | (go_at_call 9; refine (unhide HP).mono ?_; rintro e wA ⟨B, C, rfl, hA⟩; have HA := hide hA; obtain ⟨c0, c1, c2, c3, c4, c5, c6, c7, c8, c9⟩ := hA.tok; clear hA c9))
  go_ret
  exact ⟨rfl, (unhide HA).bel⟩

set_option maxHeartbeats 4000000 in
theorem mode_2 (w : World) (hk : (k != 0) = false) : Calls Try.prog 6 #[.agg #[.int .i64 k, .string nm, .string da, .string sy, .int .i64 hs, .bool true, .int .i32 ch, .bool se, .slice a len cap]] w fun e w' => e = .returned (.int .i64 2) ∧ Below w.heap.size w w' := by
  have HP := hide (public_new k nm da sy hs true ch se a len cap w)
  have e18 := eg18
  go_enter Try.func6, Try.ntmps6
  go_wp2_with (first | (go_at_call 9; refine (unhide HP).mono ?_; rintro e wA ⟨B, C, rfl, hA⟩; have HA := hide hA; obtain ⟨c0, c1, c2, c3, c4, c5, c6, c7, c8, c9⟩ := hA.tok; clear hA c9))
  go_ret
  exact ⟨rfl, (unhide HA).bel⟩

set_option maxHeartbeats 4000000 in
theorem mode_3 (w : World) (hk : (k != 0) = false) (hn : (nm.size : Int) ≤ 140737488355328) (hnm : namedM nm hs = false) : Calls Try.prog 6 #[.agg #[.int .i64 k, .string nm, .string da, .string sy, .int .i64 hs, .bool false, .int .i32 ch, .bool se, .slice a len cap]] w fun e w' => e = .returned (.int .i64 2) ∧ Below w.heap.size w w' := by
  have HP := hide (public_new k nm da sy hs false ch se a len cap w)
  have HN := hide (fun W => isNamed_any k nm da sy hs false ch se a len cap W hn)
  rw [hnm] at HN
  clear hn hnm
  have e18 := eg18
  go_enter Try.func6, Try.ntmps6
  go_wp2_with (first | (go_at_call 9; refine (unhide HP).mono ?_; rintro e wA ⟨B, C, rfl, hA⟩; have HA := hide hA; obtain ⟨c0, c1, c2, c3, c4, c5, c6, c7, c8, c9⟩ := hA.tok; clear hA c9) | (go_at_call 10; refine (unhide HN _).mono ?_; rintro e wB ⟨rfl, hb⟩; have HB := hide ((unhide HA).below hb); obtain ⟨c0, c1, c2, c3, c4, c5, c6, c7, c8, c9⟩ := (unhide HB).tok; clear hb c9))
  go_ret
  exact ⟨rfl, (unhide HB).bel⟩

set_option maxHeartbeats 4000000 in
theorem mode_4 (w : World) (hk : (k != 0) = false) (hn : (nm.size : Int) ≤ 140737488355328) (hnm : namedM nm hs = true) (hz : (sy.size : Int) ≤ 140737488355328) (hd : (da.size : Int) ≤ 140737488355328) (ho : oldM da sy hs = true) : Calls Try.prog 6 #[.agg #[.int .i64 k, .string nm, .string da, .string sy, .int .i64 hs, .bool false, .int .i32 ch, .bool se, .slice a len cap]] w fun e w' => e = .returned (.int .i64 2) ∧ Below w.heap.size w w' := by
  have HP := hide (public_new k nm da sy hs false ch se a len cap w)
  have HN := hide (fun W => isNamed_any k nm da sy hs false ch se a len cap W hn)
  rw [hnm] at HN
  have HO := hide (fun W => isOld_any k nm da sy hs false ch se a len cap W hz hd)
  rw [ho] at HO
  clear hn hnm hz hd ho
  have e18 := eg18
  go_enter Try.func6, Try.ntmps6
  go_wp2_with (first | (go_at_call 9; refine (unhide HP).mono ?_; rintro e wA ⟨B, C, rfl, hA⟩; have HA := hide hA; obtain ⟨c0, c1, c2, c3, c4, c5, c6, c7, c8, c9⟩ := hA.tok; clear hA c9) | (go_at_call 10; refine (unhide HN _).mono ?_; rintro e wB ⟨rfl, hb⟩; have HB := hide ((unhide HA).below hb); obtain ⟨c0, c1, c2, c3, c4, c5, c6, c7, c8, c9⟩ := (unhide HB).tok; clear hb c9) | (go_at_call 11; refine (unhide HO _).mono ?_; rintro e wC ⟨rfl, hb⟩; have HC := hide ((unhide HB).below hb); obtain ⟨c0, c1, c2, c3, c4, c5, c6, c7, c8, c9⟩ := (unhide HC).tok; clear hb c9))
  go_ret
  exact ⟨rfl, (unhide HC).bel⟩

set_option maxHeartbeats 4000000 in
theorem mode_5 (w : World) (hk : (k != 0) = false) (hn : (nm.size : Int) ≤ 140737488355328) (hnm : namedM nm hs = true) (hz : (sy.size : Int) ≤ 140737488355328) (hd : (da.size : Int) ≤ 140737488355328) (ho : oldM da sy hs = false) (hb1 : begsM da hs olds = true) : Calls Try.prog 6 #[.agg #[.int .i64 k, .string nm, .string da, .string sy, .int .i64 hs, .bool false, .int .i32 ch, .bool se, .slice a len cap]] w fun e w' => e = .returned (.int .i64 2) ∧ Below w.heap.size w w' := by
  have HP := hide (public_new k nm da sy hs false ch se a len cap w)
  have HN := hide (fun W => isNamed_any k nm da sy hs false ch se a len cap W hn)
  rw [hnm] at HN
  have HO := hide (fun W => isOld_any k nm da sy hs false ch se a len cap W hz hd)
  rw [ho] at HO
  have HQ1 := hide (fun W B C (h : ModeAt w W B C k nm da sy hs false ch se a len cap) => ask_new k nm da sy hs false ch se a len cap olds 29 rfl (by decide) hd h)
  rw [hb1] at HQ1
  clear hn hnm hz hd ho hb1
  have e18 := eg18
  go_enter Try.func6, Try.ntmps6
  go_wp2_with (first | (go_at_fn 18; refine (unhide HQ1 _ _ _ (unhide HC)).mono ?_; rintro e wHE ⟨rfl, hHE⟩; have HE := hide hHE; obtain ⟨c0, c1, c2, c3, c4, c5, c6, c7, c8, c9⟩ := hHE.tok; clear hHE c9) | (go_at_call 9; refine (unhide HP).mono ?_; rintro e wA ⟨B, C, rfl, hA⟩; have HA := hide hA; obtain ⟨c0, c1, c2, c3, c4, c5, c6, c7, c8, c9⟩ := hA.tok; clear hA c9) | (go_at_call 10; refine (unhide HN _).mono ?_; rintro e wB ⟨rfl, hb⟩; have HB := hide ((unhide HA).below hb); obtain ⟨c0, c1, c2, c3, c4, c5, c6, c7, c8, c9⟩ := (unhide HB).tok; clear hb c9) | (go_at_call 11; refine (unhide HO _).mono ?_; rintro e wC ⟨rfl, hb⟩; have HC := hide ((unhide HB).below hb); obtain ⟨c0, c1, c2, c3, c4, c5, c6, c7, c8, c9⟩ := (unhide HC).tok; clear hb c9) | (go_at_call 12; refine (olds_any _).mono ?_; rintro e wZ1 ⟨rfl, rfl⟩))
  go_ret
  exact ⟨rfl, (unhide HE).bel⟩

set_option maxHeartbeats 4000000 in
theorem mode_6 (w : World) (hk : (k != 0) = false) (hn : (nm.size : Int) ≤ 140737488355328) (hnm : namedM nm hs = true) (hz : (sy.size : Int) ≤ 140737488355328) (hd : (da.size : Int) ≤ 140737488355328) (ho : oldM da sy hs = false) (hb1 : begsM da hs olds = false) (hb2 : begsM da hs trans = true) (h4 : hasB hs 4 = true) : Calls Try.prog 6 #[.agg #[.int .i64 k, .string nm, .string da, .string sy, .int .i64 hs, .bool false, .int .i32 ch, .bool se, .slice a len cap]] w fun e w' => e = .returned (.int .i64 1) ∧ Below w.heap.size w w' := by
  have HP := hide (public_new k nm da sy hs false ch se a len cap w)
  have HN := hide (fun W => isNamed_any k nm da sy hs false ch se a len cap W hn)
  rw [hnm] at HN
  have HO := hide (fun W => isOld_any k nm da sy hs false ch se a len cap W hz hd)
  rw [ho] at HO
  have HQ1 := hide (fun W B C (h : ModeAt w W B C k nm da sy hs false ch se a len cap) => ask_new k nm da sy hs false ch se a len cap olds 29 rfl (by decide) hd h)
  rw [hb1] at HQ1
  have HQ2 := hide (fun W B C (h : ModeAt w W B C k nm da sy hs false ch se a len cap) => ask_new k nm da sy hs false ch se a len cap trans 2 rfl (by decide) hd h)
  rw [hb2] at HQ2
  have HH4 := hide (has_any k nm da sy hs false ch se a len cap 4)
  rw [h4] at HH4
  clear hn hnm hz hd ho hb1 hb2 h4
  have e18 := eg18
  go_enter Try.func6, Try.ntmps6
  go_wp2_with (first | (go_at_fn 18; have _x := unhide HE; refine (unhide HQ2 _ _ _ (unhide HE)).mono ?_; rintro e wHF ⟨rfl, hHF⟩; have HF := hide hHF; obtain ⟨c0, c1, c2, c3, c4, c5, c6, c7, c8, c9⟩ := hHF.tok; clear hHF c9) | (go_at_fn 18; refine (unhide HQ1 _ _ _ (unhide HC)).mono ?_; rintro e wHE ⟨rfl, hHE⟩; have HE := hide hHE; obtain ⟨c0, c1, c2, c3, c4, c5, c6, c7, c8, c9⟩ := hHE.tok; clear hHE c9) | (go_at_call 9; refine (unhide HP).mono ?_; rintro e wA ⟨B, C, rfl, hA⟩; have HA := hide hA; obtain ⟨c0, c1, c2, c3, c4, c5, c6, c7, c8, c9⟩ := hA.tok; clear hA c9) | (go_at_call 10; refine (unhide HN _).mono ?_; rintro e wB ⟨rfl, hb⟩; have HB := hide ((unhide HA).below hb); obtain ⟨c0, c1, c2, c3, c4, c5, c6, c7, c8, c9⟩ := (unhide HB).tok; clear hb c9) | (go_at_call 11; refine (unhide HO _).mono ?_; rintro e wC ⟨rfl, hb⟩; have HC := hide ((unhide HB).below hb); obtain ⟨c0, c1, c2, c3, c4, c5, c6, c7, c8, c9⟩ := (unhide HC).tok; clear hb c9) | (go_at_call 12; refine (olds_any _).mono ?_; rintro e wZ1 ⟨rfl, rfl⟩) | (go_at_call 13; refine (trans_any _).mono ?_; rintro e wZ2 ⟨rfl, rfl⟩) | (go_at_call 14; refine (unhide HH4 _).mono ?_; rintro e wG ⟨rfl, hb⟩; have HG := hide ((unhide HF).below hb); clear hb))
  go_ret
  exact ⟨rfl, (unhide HG).bel⟩

set_option maxHeartbeats 4000000 in
theorem mode_7 (w : World) (hk : (k != 0) = false) (hn : (nm.size : Int) ≤ 140737488355328) (hnm : namedM nm hs = true) (hz : (sy.size : Int) ≤ 140737488355328) (hd : (da.size : Int) ≤ 140737488355328) (ho : oldM da sy hs = false) (hb1 : begsM da hs olds = false) (hb2 : begsM da hs trans = true) (h4 : hasB hs 4 = false) : Calls Try.prog 6 #[.agg #[.int .i64 k, .string nm, .string da, .string sy, .int .i64 hs, .bool false, .int .i32 ch, .bool se, .slice a len cap]] w fun e w' => e = .returned (.int .i64 2) ∧ Below w.heap.size w w' := by
  have HP := hide (public_new k nm da sy hs false ch se a len cap w)
  have HN := hide (fun W => isNamed_any k nm da sy hs false ch se a len cap W hn)
  rw [hnm] at HN
  have HO := hide (fun W => isOld_any k nm da sy hs false ch se a len cap W hz hd)
  rw [ho] at HO
  have HQ1 := hide (fun W B C (h : ModeAt w W B C k nm da sy hs false ch se a len cap) => ask_new k nm da sy hs false ch se a len cap olds 29 rfl (by decide) hd h)
  rw [hb1] at HQ1
  have HQ2 := hide (fun W B C (h : ModeAt w W B C k nm da sy hs false ch se a len cap) => ask_new k nm da sy hs false ch se a len cap trans 2 rfl (by decide) hd h)
  rw [hb2] at HQ2
  have HH4 := hide (has_any k nm da sy hs false ch se a len cap 4)
  rw [h4] at HH4
  clear hn hnm hz hd ho hb1 hb2 h4
  have e18 := eg18
  go_enter Try.func6, Try.ntmps6
  go_wp2_with (first | (go_at_fn 18; have _x := unhide HE; refine (unhide HQ2 _ _ _ (unhide HE)).mono ?_; rintro e wHF ⟨rfl, hHF⟩; have HF := hide hHF; obtain ⟨c0, c1, c2, c3, c4, c5, c6, c7, c8, c9⟩ := hHF.tok; clear hHF c9) | (go_at_fn 18; refine (unhide HQ1 _ _ _ (unhide HC)).mono ?_; rintro e wHE ⟨rfl, hHE⟩; have HE := hide hHE; obtain ⟨c0, c1, c2, c3, c4, c5, c6, c7, c8, c9⟩ := hHE.tok; clear hHE c9) | (go_at_call 9; refine (unhide HP).mono ?_; rintro e wA ⟨B, C, rfl, hA⟩; have HA := hide hA; obtain ⟨c0, c1, c2, c3, c4, c5, c6, c7, c8, c9⟩ := hA.tok; clear hA c9) | (go_at_call 10; refine (unhide HN _).mono ?_; rintro e wB ⟨rfl, hb⟩; have HB := hide ((unhide HA).below hb); obtain ⟨c0, c1, c2, c3, c4, c5, c6, c7, c8, c9⟩ := (unhide HB).tok; clear hb c9) | (go_at_call 11; refine (unhide HO _).mono ?_; rintro e wC ⟨rfl, hb⟩; have HC := hide ((unhide HB).below hb); obtain ⟨c0, c1, c2, c3, c4, c5, c6, c7, c8, c9⟩ := (unhide HC).tok; clear hb c9) | (go_at_call 12; refine (olds_any _).mono ?_; rintro e wZ1 ⟨rfl, rfl⟩) | (go_at_call 13; refine (trans_any _).mono ?_; rintro e wZ2 ⟨rfl, rfl⟩) | (go_at_call 14; refine (unhide HH4 _).mono ?_; rintro e wG ⟨rfl, hb⟩; have HG := hide ((unhide HF).below hb); clear hb))
  go_ret
  exact ⟨rfl, (unhide HG).bel⟩

set_option maxHeartbeats 4000000 in
theorem mode_8 (w : World) (hk : (k != 0) = false) (hn : (nm.size : Int) ≤ 140737488355328) (hnm : namedM nm hs = true) (hz : (sy.size : Int) ≤ 140737488355328) (hd : (da.size : Int) ≤ 140737488355328) (ho : oldM da sy hs = false) (hb1 : begsM da hs olds = false) (hb2 : begsM da hs trans = false) (hb3 : begsM da hs lims = true) : Calls Try.prog 6 #[.agg #[.int .i64 k, .string nm, .string da, .string sy, .int .i64 hs, .bool false, .int .i32 ch, .bool se, .slice a len cap]] w fun e w' => e = .returned (.int .i64 1) ∧ Below w.heap.size w w' := by
  have HP := hide (public_new k nm da sy hs false ch se a len cap w)
  have HN := hide (fun W => isNamed_any k nm da sy hs false ch se a len cap W hn)
  rw [hnm] at HN
  have HO := hide (fun W => isOld_any k nm da sy hs false ch se a len cap W hz hd)
  rw [ho] at HO
  have HQ1 := hide (fun W B C (h : ModeAt w W B C k nm da sy hs false ch se a len cap) => ask_new k nm da sy hs false ch se a len cap olds 29 rfl (by decide) hd h)
  rw [hb1] at HQ1
  have HQ2 := hide (fun W B C (h : ModeAt w W B C k nm da sy hs false ch se a len cap) => ask_new k nm da sy hs false ch se a len cap trans 2 rfl (by decide) hd h)
  rw [hb2] at HQ2
  have HQ3 := hide (fun W B C (h : ModeAt w W B C k nm da sy hs false ch se a len cap) => ask_new k nm da sy hs false ch se a len cap lims 2 rfl (by decide) hd h)
  rw [hb3] at HQ3
  clear hn hnm hz hd ho hb1 hb2 hb3
  have e18 := eg18
  go_enter Try.func6, Try.ntmps6
  go_wp2_with (first | (go_at_fn 18; have _x := unhide HF; refine (unhide HQ3 _ _ _ (unhide HF)).mono ?_; rintro e wHI ⟨rfl, hHI⟩; have HI := hide hHI; obtain ⟨c0, c1, c2, c3, c4, c5, c6, c7, c8, c9⟩ := hHI.tok; clear hHI c9) | (go_at_fn 18; have _x := unhide HE; refine (unhide HQ2 _ _ _ (unhide HE)).mono ?_; rintro e wHF ⟨rfl, hHF⟩; have HF := hide hHF; obtain ⟨c0, c1, c2, c3, c4, c5, c6, c7, c8, c9⟩ := hHF.tok; clear hHF c9) | (go_at_fn 18; refine (unhide HQ1 _ _ _ (unhide HC)).mono ?_; rintro e wHE ⟨rfl, hHE⟩; have HE := hide hHE; obtain ⟨c0, c1, c2, c3, c4, c5, c6, c7, c8, c9⟩ := hHE.tok; clear hHE c9) | (go_at_call 9; refine (unhide HP).mono ?_; rintro e wA ⟨B, C, rfl, hA⟩; have HA := hide hA; obtain ⟨c0, c1, c2, c3, c4, c5, c6, c7, c8, c9⟩ := hA.tok; clear hA c9) | (go_at_call 10; refine (unhide HN _).mono ?_; rintro e wB ⟨rfl, hb⟩; have HB := hide ((unhide HA).below hb); obtain ⟨c0, c1, c2, c3, c4, c5, c6, c7, c8, c9⟩ := (unhide HB).tok; clear hb c9) | (go_at_call 11; refine (unhide HO _).mono ?_; rintro e wC ⟨rfl, hb⟩; have HC := hide ((unhide HB).below hb); obtain ⟨c0, c1, c2, c3, c4, c5, c6, c7, c8, c9⟩ := (unhide HC).tok; clear hb c9) | (go_at_call 12; refine (olds_any _).mono ?_; rintro e wZ1 ⟨rfl, rfl⟩) | (go_at_call 13; refine (trans_any _).mono ?_; rintro e wZ2 ⟨rfl, rfl⟩) | (go_at_call 15; refine (lims_any _).mono ?_; rintro e wZ3 ⟨rfl, rfl⟩))
  go_ret
  exact ⟨rfl, (unhide HI).bel⟩

set_option maxHeartbeats 4000000 in
theorem mode_9 (w : World) (hk : (k != 0) = false) (hn : (nm.size : Int) ≤ 140737488355328) (hnm : namedM nm hs = true) (hz : (sy.size : Int) ≤ 140737488355328) (hd : (da.size : Int) ≤ 140737488355328) (ho : oldM da sy hs = false) (hb1 : begsM da hs olds = false) (hb2 : begsM da hs trans = false) (hb3 : begsM da hs lims = false) : Calls Try.prog 6 #[.agg #[.int .i64 k, .string nm, .string da, .string sy, .int .i64 hs, .bool false, .int .i32 ch, .bool se, .slice a len cap]] w fun e w' => e = .returned (.int .i64 0) ∧ Below w.heap.size w w' := by
  have HP := hide (public_new k nm da sy hs false ch se a len cap w)
  have HN := hide (fun W => isNamed_any k nm da sy hs false ch se a len cap W hn)
  rw [hnm] at HN
  have HO := hide (fun W => isOld_any k nm da sy hs false ch se a len cap W hz hd)
  rw [ho] at HO
  have HQ1 := hide (fun W B C (h : ModeAt w W B C k nm da sy hs false ch se a len cap) => ask_new k nm da sy hs false ch se a len cap olds 29 rfl (by decide) hd h)
  rw [hb1] at HQ1
  have HQ2 := hide (fun W B C (h : ModeAt w W B C k nm da sy hs false ch se a len cap) => ask_new k nm da sy hs false ch se a len cap trans 2 rfl (by decide) hd h)
  rw [hb2] at HQ2
  have HQ3 := hide (fun W B C (h : ModeAt w W B C k nm da sy hs false ch se a len cap) => ask_new k nm da sy hs false ch se a len cap lims 2 rfl (by decide) hd h)
  rw [hb3] at HQ3
  clear hn hnm hz hd ho hb1 hb2 hb3
  have e18 := eg18
  go_enter Try.func6, Try.ntmps6
  go_wp2_with (first | (go_at_fn 18; have _x := unhide HF; refine (unhide HQ3 _ _ _ (unhide HF)).mono ?_; rintro e wHI ⟨rfl, hHI⟩; have HI := hide hHI; obtain ⟨c0, c1, c2, c3, c4, c5, c6, c7, c8, c9⟩ := hHI.tok; clear hHI c9) | (go_at_fn 18; have _x := unhide HE; refine (unhide HQ2 _ _ _ (unhide HE)).mono ?_; rintro e wHF ⟨rfl, hHF⟩; have HF := hide hHF; obtain ⟨c0, c1, c2, c3, c4, c5, c6, c7, c8, c9⟩ := hHF.tok; clear hHF c9) | (go_at_fn 18; refine (unhide HQ1 _ _ _ (unhide HC)).mono ?_; rintro e wHE ⟨rfl, hHE⟩; have HE := hide hHE; obtain ⟨c0, c1, c2, c3, c4, c5, c6, c7, c8, c9⟩ := hHE.tok; clear hHE c9) | (go_at_call 9; refine (unhide HP).mono ?_; rintro e wA ⟨B, C, rfl, hA⟩; have HA := hide hA; obtain ⟨c0, c1, c2, c3, c4, c5, c6, c7, c8, c9⟩ := hA.tok; clear hA c9) | (go_at_call 10; refine (unhide HN _).mono ?_; rintro e wB ⟨rfl, hb⟩; have HB := hide ((unhide HA).below hb); obtain ⟨c0, c1, c2, c3, c4, c5, c6, c7, c8, c9⟩ := (unhide HB).tok; clear hb c9) | (go_at_call 11; refine (unhide HO _).mono ?_; rintro e wC ⟨rfl, hb⟩; have HC := hide ((unhide HB).below hb); obtain ⟨c0, c1, c2, c3, c4, c5, c6, c7, c8, c9⟩ := (unhide HC).tok; clear hb c9) | (go_at_call 12; refine (olds_any _).mono ?_; rintro e wZ1 ⟨rfl, rfl⟩) | (go_at_call 13; refine (trans_any _).mono ?_; rintro e wZ2 ⟨rfl, rfl⟩) | (go_at_call 15; refine (lims_any _).mono ?_; rintro e wZ3 ⟨rfl, rfl⟩))
  go_ret
  exact ⟨rfl, (unhide HI).bel⟩

def modeM (k : Int) (nm da sy : ByteArray) (hs : Int) (qk : Bool) : Int :=
  if (k != 0) || qk || !namedM nm hs || oldM da sy hs || begsM da hs olds then 2
  else if begsM da hs trans then (if hasB hs 4 then 1 else 2)
  else if begsM da hs lims then 1 else 0

theorem mode_any (w : World) (hn : (nm.size : Int) ≤ 140737488355328) (hd : (da.size : Int) ≤ 140737488355328) (hz : (sy.size : Int) ≤ 140737488355328) : Calls Try.prog 6 #[.agg #[.int .i64 k, .string nm, .string da, .string sy, .int .i64 hs, .bool qk, .int .i32 ch, .bool se, .slice a len cap]] w fun e w' => e = .returned (.int .i64 (modeM k nm da sy hs qk)) ∧ Below w.heap.size w w' := by
  unfold modeM
  cases hk : (k != 0) with
  | true => exact mode_1 k nm da sy hs qk ch se a len cap w hk
  | false =>
  cases hq : qk with
  | true => subst hq; exact mode_2 k nm da sy hs ch se a len cap w hk
  | false =>
  cases hnm : namedM nm hs with
  | false => subst hq; exact mode_3 k nm da sy hs ch se a len cap w hk hn hnm
  | true =>
  cases ho : oldM da sy hs with
  | true => subst hq; exact mode_4 k nm da sy hs ch se a len cap w hk hn hnm hz hd ho
  | false =>
  cases h1 : begsM da hs olds with
  | true => subst hq; exact mode_5 k nm da sy hs ch se a len cap w hk hn hnm hz hd ho h1
  | false =>
  cases h2 : begsM da hs trans with
  | true =>
    cases h4 : hasB hs 4 with
    | true => subst hq; exact mode_6 k nm da sy hs ch se a len cap w hk hn hnm hz hd ho h1 h2 h4
    | false => subst hq; exact mode_7 k nm da sy hs ch se a len cap w hk hn hnm hz hd ho h1 h2 h4
  | false =>
  cases h3 : begsM da hs lims with
  | true => subst hq; exact mode_8 k nm da sy hs ch se a len cap w hk hn hnm hz hd ho h1 h2 h3
  | false => subst hq; exact mode_9 k nm da sy hs ch se a len cap w hk hn hnm hz hd ho h1 h2 h3
end
end Go.Proofs.Ytnnegdcoihcanaa
