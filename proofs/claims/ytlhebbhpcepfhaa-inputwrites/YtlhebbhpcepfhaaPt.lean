/-
  The walk of InputWrites.
-/
import Derived.Test.YtlhebbhpcepfhaaPs
namespace Go.Proofs.Ytlhebbhpcepfhaa
open Go.RowKit

/-- A stream to which l was fed, ended, with a mark at which W was written. -/
def wroteM (l W : List Int) : StrM := ⟨[(endsM false l).1, W], (endsM false l).2, true, false⟩
theorem wrote_mark (l : List Int) : markM (finM (gotM l)) = (0, wroteM l []) := rfl
theorem wrote_write {l W k : List Int} (h : l.length + W.length + k.length ≤ 1048576) : writeM (wroteM l W) k = (0, wroteM l (W ++ (endsM false k).1)) := by
  have hl := endsM_len false l
  unfold writeM
  rw [if_neg (by simp [wroteM]), if_pos (by simp [wroteM, StrM.len]; omega)]
  rfl
theorem wrote_last (l W : List Int) : (wroteM l W).last = W := rfl
theorem wrote_drain (l W : List Int) : drainM (wroteM l W) = wroteM l [] := rfl
theorem wrote_peek (l : List Int) : peekM (wroteM l []) = (0, false) := rfl
theorem wrote_next (l : List Int) : nextM (wroteM l []) = wroteM l [] := rfl
theorem wrote_unmark (l : List Int) : unmarkM (wroteM l []) = (0, finM (gotM l)) := by
  unfold unmarkM
  rw [if_neg (by simp [wroteM])]
  simp [wroteM, StrM.last, finM, gotM]

section
variable {w wx : World} {p u k y g : PartM} {bS bT : Nat} {l W : List Int}
theorem w_feed (h : Env w wx [strOb _ bS newM, partOb _ p]) (hl : p.xs.length ≤ 5000) : Calls Try.prog 16 #[.pointer (some ⟨bS, 0, none⟩), p.val] wx fun e w' => e = .returned (.int .i64 0) ∧ Env w w' [strOb _ bS (gotM p.xs), partOb _ p] := by
  have := env_feed_part h (i := 0) (j := 1) (bS := bS) (q := p) rfl rfl (by omega)
  rw [← got_nil, got_feed (by simp; omega), List.nil_append] at this
  exact this
theorem w_end (h : Env w wx [strOb _ bS (gotM l), partOb _ p]) : Calls Try.prog 17 #[.pointer (some ⟨bS, 0, none⟩)] wx fun e w' => e = .returned (.int .i64 0) ∧ Env w w' [strOb _ bS (finM (gotM l)), partOb _ p] :=
  env_end h (i := 0) (bS := bS) rfl
theorem w_mark (h : Env w wx [strOb _ bS (finM (gotM l)), partOb _ p]) : Calls Try.prog 20 #[.pointer (some ⟨bS, 0, none⟩)] wx fun e w' => e = .returned (.int .i64 0) ∧ Env w w' [strOb _ bS (wroteM l []), partOb _ p] :=
  env_mark h (i := 0) (bS := bS) (m := finM (gotM l)) rfl
theorem w_write (h : Env w wx [strOb _ bS (wroteM l W), partOb _ p, partOb _ u, partOb _ k]) (hl : l.length + W.length + k.xs.length ≤ 1048576) : Calls Try.prog 21 #[.pointer (some ⟨bS, 0, none⟩), k.val] wx fun e w' => e = .returned (.int .i64 0) ∧ Env w w' [strOb _ bS (wroteM l (W ++ (endsM false k.xs).1)), partOb _ p, partOb _ u, partOb _ k] := by
  have := env_write_part h (i := 0) (j := 3) (bS := bS) (q := k) rfl rfl (by omega)
  rw [wrote_write hl] at this
  exact this
theorem w_feedT {m : StrM} (h : Env w wx [strOb _ bS m, partOb _ p, partOb _ u, partOb _ k, strOb _ bT newM]) (hl : k.xs.length ≤ 5000) : Calls Try.prog 16 #[.pointer (some ⟨bT, 0, none⟩), k.val] wx fun e w' => e = .returned (.int .i64 0) ∧ Env w w' [strOb _ bS m, partOb _ p, partOb _ u, partOb _ k, strOb _ bT (gotM k.xs)] := by
  have := env_feed_part h (i := 4) (j := 3) (bS := bT) (q := k) rfl rfl (by omega)
  rw [← got_nil, got_feed (by simp; omega), List.nil_append] at this
  exact this
theorem w_endT {m : StrM} (h : Env w wx [strOb _ bS m, partOb _ p, partOb _ u, partOb _ k, strOb _ bT (gotM l)]) : Calls Try.prog 17 #[.pointer (some ⟨bT, 0, none⟩)] wx fun e w' => e = .returned (.int .i64 0) ∧ Env w w' [strOb _ bS m, partOb _ p, partOb _ u, partOb _ k, strOb _ bT (finM (gotM l))] :=
  env_end h (i := 4) (bS := bT) rfl
theorem w_allT {m : StrM} (h : Env w wx [strOb _ bS m, partOb _ p, partOb _ u, partOb _ k, strOb _ bT (finM (gotM l))]) (hne : ∀ x ∈ l, x ≠ -1) (hl : l.length ≤ 5000) : Calls Try.prog 18 #[.pointer (some ⟨bT, 0, none⟩)] wx fun e w' => ∃ y, e = .returned y.val ∧ y.xs = (endsM false l).1 ∧ Env w w' [strOb _ bS m, partOb _ p, partOb _ u, partOb _ k, strOb _ bT (drainM (finM (gotM l))), partOb _ y] :=
  env_all h (i := 4) (bS := bT) rfl (fun x hx => (ends_ne hne false x hx).1) (by rw [got_last]; have := endsM_len false l; omega)
theorem w_allS (h : Env w wx [strOb _ bS (wroteM l W), partOb _ p, partOb _ u]) (hne : ∀ x ∈ W, x ≠ -1) (hl : W.length ≤ 1048576) : Calls Try.prog 18 #[.pointer (some ⟨bS, 0, none⟩)] wx fun e w' => ∃ g, e = .returned g.val ∧ g.xs = W ∧ Env w w' [strOb _ bS (wroteM l []), partOb _ p, partOb _ u, partOb _ g] :=
  env_all h (i := 0) (bS := bS) (m := wroteM l W) rfl hne hl
theorem w_next (h : Env w wx [strOb _ bS (wroteM l []), partOb _ p, partOb _ u, partOb _ g]) : Calls Try.prog 22 #[.pointer (some ⟨bS, 0, none⟩)] wx fun e w' => e = .returned (.tuple #[.int .i32 0, .bool false]) ∧ Env w w' [strOb _ bS (wroteM l []), partOb _ p, partOb _ u, partOb _ g] :=
  env_next h (i := 0) (bS := bS) (m := wroteM l []) rfl
theorem w_unmark (h : Env w wx [strOb _ bS (wroteM l []), partOb _ p, partOb _ u, partOb _ g]) : Calls Try.prog 23 #[.pointer (some ⟨bS, 0, none⟩)] wx fun e w' => e = .returned (.int .i64 0) ∧ Env w w' [strOb _ bS (finM (gotM l)), partOb _ p] := by
  have := env_unmark h (i := 0) (bS := bS) (m := wroteM l []) rfl
  rw [wrote_unmark] at this
  exact this.mono fun _ _ ⟨a, b⟩ => ⟨a, b.take 2⟩
theorem w_feed2 {m : StrM} (h : Env w wx [strOb _ bS m, partOb _ p, strOb _ bT newM]) (hl : p.xs.length ≤ 5000) : Calls Try.prog 16 #[.pointer (some ⟨bT, 0, none⟩), p.val] wx fun e w' => e = .returned (.int .i64 0) ∧ Env w w' [strOb _ bS m, partOb _ p, strOb _ bT (gotM p.xs)] := by
  have := env_feed_part h (i := 2) (j := 1) (bS := bT) (q := p) rfl rfl (by omega)
  rw [← got_nil, got_feed (by simp; omega), List.nil_append] at this
  exact this
theorem w_end2 {m : StrM} (h : Env w wx [strOb _ bS m, partOb _ p, strOb _ bT (gotM l)]) : Calls Try.prog 17 #[.pointer (some ⟨bT, 0, none⟩)] wx fun e w' => e = .returned (.int .i64 0) ∧ Env w w' [strOb _ bS m, partOb _ p, strOb _ bT (finM (gotM l))] :=
  env_end h (i := 2) (bS := bT) rfl
theorem w_all1 {m : StrM} (h : Env w wx [strOb _ bS (finM (gotM l)), partOb _ p, strOb _ bT m]) (hne : ∀ x ∈ l, x ≠ -1) (hl : l.length ≤ 5000) : Calls Try.prog 18 #[.pointer (some ⟨bS, 0, none⟩)] wx fun e w' => ∃ y, e = .returned y.val ∧ y.xs = (endsM false l).1 ∧ Env w w' [strOb _ bS (drainM (finM (gotM l))), partOb _ p, strOb _ bT m, partOb _ y] :=
  env_all h (i := 0) (bS := bS) rfl (fun x hx => (ends_ne hne false x hx).1) (by rw [got_last]; have := endsM_len false l; omega)
theorem w_all2 {m : StrM} (h : Env w wx [strOb _ bS m, partOb _ p, strOb _ bT (finM (gotM l)), partOb _ y]) (hne : ∀ x ∈ l, x ≠ -1) (hl : l.length ≤ 5000) : Calls Try.prog 18 #[.pointer (some ⟨bT, 0, none⟩)] wx fun e w' => ∃ g, e = .returned g.val ∧ g.xs = (endsM false l).1 ∧ Env w w' [strOb _ bS m, partOb _ p, strOb _ bT (drainM (finM (gotM l))), partOb _ y, partOb _ g] :=
  env_all h (i := 2) (bS := bT) rfl (fun x hx => (ends_ne hne false x hx).1) (by rw [got_last]; have := endsM_len false l; omega)
end

set_option maxHeartbeats 4000000 in
theorem inputWrites_walk (w : World) (a : Option Addr) (l : List Int) (c : Nat) (hr : RunesIn w a l) (hl : l.length ≤ 35184372087808) (a1 : Option Addr) (l1 : List RowM) (c1 : Nat) (hr1 : RowsIn w a1 l1) (hl1 : l1.length ≤ maxLen) :
    Calls Try.prog 5 #[.slice a l.length c, .slice a1 l1.length c1] w fun e w' => e = .returned (.bool true) ∧ Below w.heap.size w w' := by
  have HR := hide hr
  have HL := hide hl
  have HR1 := hide hr1
  have HL1 := hide hl1
  have HNE := hide (plain_ne l)
  have HPL := hide (plainM_len l)
  clear hr hl hr1 hl1
  go_enter Try.func5, Try.ntmps5
  go_wp2_with (first
    | (go_at_call 9; go_must (refine (env_new (Env.start w)).mono ?_); rintro e w1 ⟨bS, rfl, hE⟩; have HE1 := hide (show Env w w1 [strOb _ bS newM] from hE); clear hE)
    | (go_at_call 15; go_must (refine (plain_any w1 a l c ((unhide HR).below (unhide HE1).bel) (by have := unhide HL; omega)).mono ?_); rintro e w2 ⟨p, rfl, hp, hx, hb⟩; have HNP : Hid (∀ x ∈ p.xs, x ≠ -1) := hide (by rw [hx]; exact unhide HNE); have HLP : Hid (p.xs.length ≤ 5000) := hide (by rw [hx]; exact unhide HPL); have HE2 := hide (show Env w w2 [strOb _ bS newM, partOb _ p] from (unhide HE1).list hb hp); clear hb hp hx)
    | (go_at_call 16; go_must (refine (w_feed (unhide HE2) (unhide HLP)).mono ?_); rintro e w3 ⟨rfl, hv⟩; have HE3 := hide hv; clear hv)
    | (go_at_call 17; go_must (refine (w_end (unhide HE3)).mono ?_); rintro e w4 ⟨rfl, hv⟩; have HE4 := hide hv; clear hv)
    | (go_at_call 20; go_must (refine (w_mark (unhide HE4)).mono ?_); rintro e w5 ⟨rfl, hv⟩; have HE5 := hide hv; clear hv))
  clear HNE HPL HE1 HE2 HE3 HE4 HR HL
  go_loopg [7, 8] l1.length (fun gx s7 s8 wx => ∃ (i : Nat) (u : PartM), s8 = .int .i64 i ∧ s7 = u.val ∧ i + gx = l1.length ∧ i ≤ 50 ∧ u.xs.length ≤ 5000 * i ∧ (∀ x ∈ u.xs, x ≠ -1) ∧ Env w wx [strOb _ bS (wroteM p.xs u.xs), partOb _ p, partOb _ u])
  case atStart => exact ⟨0, ⟨none, 0, []⟩, rfl, rfl, by omega, by omega, by simp, by simp, (unhide HE5).nil⟩
  case round =>
    obtain ⟨i, u, rfl, rfl, hig, hi50, hu5, hun, hE⟩ := hrel
    have HG := hide hig
    have HU5 := hide hu5
    have HUN := hide hun
    have HE := hide hE
    clear HE5
    by_cases hgo : i < l1.length ∧ i < 50
    · obtain ⟨hil, h50⟩ := hgo
      have hiz : (i : Int) < (l1.length : Int) := by omega
      have h5z : (i : Int) < 50 := by omega
      have hw1 : IntKind.i64.wrap ((i : Int) + 1) = (i : Int) + 1 := by rw [IntKind.wrap_i64]; omega
      obtain ⟨⟨b, off, ha1, hcell⟩, hrr, hrl⟩ := ((unhide HR1).below hE.bel) i l1[i] (List.getElem?_eq_getElem hil)
      generalize l1[i] = r at hcell hrr hrl
      subst ha1
      have HPN := hide (plain_ne r.l)
      have HPK := hide (plainM_len r.l)
      have HPA := hide (plain_any wr r.a r.l r.cap hrr (by omega))
      have HI := hide hil
      have H50 := hide h50
      have HUL : Hid (u.xs.length ≤ 250000) := hide (by omega)
      clear hig hi50 hu5 hun hE hil h50 hrr hrl
      go_wp2_with (first
        | (go_at_call 15; go_must (refine (unhide HPA).mono ?_); rintro e w6 ⟨k, rfl, hp, hx, hb⟩; have HKN : Hid (∀ x ∈ k.xs, x ≠ -1) := hide (by rw [hx]; exact unhide HPN); have HKL : Hid (k.xs.length ≤ 5000) := hide (by rw [hx]; exact unhide HPK); have HE6 := hide (show Env w w6 [strOb _ bS (wroteM p.xs u.xs), partOb _ p, partOb _ u, partOb _ k] from (unhide HE).list hb hp); clear hb hp hx)
        | (go_at_call 21; go_must (refine (w_write (unhide HE6) (by have h1 := unhide HLP; have h2 := unhide HUL; have h3 := unhide HKL; omega)).mono ?_); rintro e w7 ⟨rfl, hv⟩; have HE7 := hide hv; clear hv)
        | (go_at_call 9; go_must (refine (env_new (unhide HE7)).mono ?_); rintro e w8 ⟨bT, rfl, hv⟩; have HE8 := hide (show Env w w8 [strOb _ bS (wroteM p.xs (u.xs ++ (endsM false k.xs).1)), partOb _ p, partOb _ u, partOb _ k, strOb _ bT newM] from hv); clear hv)
        | (go_at_call 16; go_must (refine (w_feedT (unhide HE8) (unhide HKL)).mono ?_); rintro e w9 ⟨rfl, hv⟩; have HE9 := hide hv; clear hv)
        | (go_at_call 17; go_must (refine (w_endT (unhide HE9)).mono ?_); rintro e w10 ⟨rfl, hv⟩; have HE10 := hide hv; clear hv)
        | (go_at_call 18; go_must (refine (w_allT (unhide HE10) (unhide HKN) (unhide HKL)).mono ?_); rintro e w11 ⟨y, rfl, hy, hv⟩; have HY := hide hy; have HE11 := hide hv; clear hv hy)
        | (at_builtin; go_must (refine wpList_part_append (base := w.heap.size) (p := u) (by rfl) _ _ (by rfl) (by rfl) y.a y.xs y.cap (by rfl) (by exact (unhide HE11).part (i := 2) rfl) (by exact (unhide HE11).bel.size) (by exact ((unhide HE11).part (i := 5) rfl).runes) (by have h1 := endsM_len false k.xs; have h2 := unhide HUL; have h3 := unhide HKL; rw [unhide HY]; omega) ?_); intro u' w12 g1 g2 g3 g4 g5; have HU2 : Hid (u'.xs = u.xs ++ (endsM false k.xs).1) := hide (by rw [g2, unhide HY]); have HE12 := hide (show Env w w12 [strOb _ bS (wroteM p.xs (u.xs ++ (endsM false k.xs).1)), partOb _ p, partOb _ u'] from ((unhide HE11).appended (i := 2) rfl g1 g3 g4).take 3); clear g1 g2 g3 g4 g5))
      go_roundg (gk - 1)
      case measure => have := unhide HG; have := unhide HI; omega
      case rel =>
        refine ⟨i + 1, u', by go_num, rfl, by have := unhide HG; have := unhide HI; omega, by have := unhide H50; omega, ?_, ?_, by rw [unhide HU2]; exact unhide HE12⟩
        · have h1 := endsM_len false k.xs
          have h2 := unhide HU5
          have h3 := unhide HKL
          rw [unhide HU2, List.length_append]
          omega
        · rw [unhide HU2]
          intro z hz
          rcases List.mem_append.1 hz with hz | hz
          · exact unhide HUN z hz
          · exact (ends_ne (unhide HKN) false z hz).1
    · have HUL : Hid (u.xs.length ≤ 1048576) := hide (by omega)
      by_cases hil : i < l1.length
      · have hiz : (i : Int) < (l1.length : Int) := by omega
        have h5z : ¬ (i : Int) < 50 := by omega
        clear hig hi50 hu5 hun hE hil hgo
        go_wp2_with (first
          | (go_at_call 18; have _x := unhide HE12; go_must (refine (w_all2 (unhide HE12) (unhide HNP) (unhide HLP)).mono ?_); rintro e w13 ⟨y2, rfl, hy, hv⟩; have HY2 := hide hy; have HE13 := hide hv; clear hv hy)
          | (go_at_call 18; have _x := unhide HE11; go_must (refine (w_all1 (unhide HE11) (unhide HNP) (unhide HLP)).mono ?_); rintro e w12 ⟨y1, rfl, hy, hv⟩; have HY1 := hide hy; have HE12 := hide hv; clear hv hy)
          | (go_at_call 18; go_must (refine (w_allS (unhide HE) (unhide HUN) (unhide HUL)).mono ?_); rintro e w6 ⟨g, rfl, hy, hv⟩; have HGX := hide hy; have HE6 := hide hv; clear hv hy)
          | (go_at_call 22; go_must (refine (w_next (unhide HE6)).mono ?_); rintro e w7 ⟨rfl, hv⟩; have HE7 := hide hv; clear hv)
          | (go_at_call 19; have _x := unhide HE13; go_must (refine (runes_any w13 y1.a y2.a y1.xs y2.xs y1.cap y2.cap ((unhide HE13).part (i := 3) rfl).runes ((unhide HE13).part (i := 4) rfl).runes (by rw [unhide HY1]; have h1 := endsM_len false p.xs; have h2 := unhide HLP; omega)).mono ?_); rw [decide_eq_true (show y1.xs = y2.xs by rw [unhide HY1, unhide HY2])]; rintro e w14 ⟨rfl, hb⟩; have HE14 := hide ((unhide HE13).more hb); clear hb)
          | (go_at_call 19; go_must (refine (runes_any w7 g.a u.a g.xs u.xs g.cap u.cap ((unhide HE7).part (i := 3) rfl).runes ((unhide HE7).part (i := 2) rfl).runes (by rw [unhide HGX]; have h2 := unhide HUL; omega)).mono ?_); rw [decide_eq_true (unhide HGX)]; rintro e w8 ⟨rfl, hb⟩; have HE8 := hide ((unhide HE7).more hb); clear hb)
          | (go_at_call 23; go_must (refine (w_unmark (unhide HE8)).mono ?_); rintro e w9 ⟨rfl, hv⟩; have HE9 := hide hv; clear hv)
          | (go_at_call 9; go_must (refine (env_new (unhide HE9)).mono ?_); rintro e w10 ⟨bT, rfl, hv⟩; have HE10 := hide (show Env w w10 [strOb _ bS (finM (gotM p.xs)), partOb _ p, strOb _ bT newM] from hv); clear hv)
          | (go_at_call 16; go_must (refine (w_feed2 (unhide HE10) (unhide HLP)).mono ?_); rintro e w11 ⟨rfl, hv⟩; have HE10b := hide hv; clear hv)
          | (go_at_call 17; go_must (refine (w_end2 (unhide HE10b)).mono ?_); rintro e w11b ⟨rfl, hv⟩; have HE11 := hide hv; clear hv))
        go_ret
        exact ⟨rfl, (unhide HE14).bel⟩
      · have hiz : ¬ (i : Int) < (l1.length : Int) := by omega
        clear hig hi50 hu5 hun hE hil hgo
        go_wp2_with (first
          | (go_at_call 18; have _x := unhide HE12; go_must (refine (w_all2 (unhide HE12) (unhide HNP) (unhide HLP)).mono ?_); rintro e w13 ⟨y2, rfl, hy, hv⟩; have HY2 := hide hy; have HE13 := hide hv; clear hv hy)
          | (go_at_call 18; have _x := unhide HE11; go_must (refine (w_all1 (unhide HE11) (unhide HNP) (unhide HLP)).mono ?_); rintro e w12 ⟨y1, rfl, hy, hv⟩; have HY1 := hide hy; have HE12 := hide hv; clear hv hy)
          | (go_at_call 18; go_must (refine (w_allS (unhide HE) (unhide HUN) (unhide HUL)).mono ?_); rintro e w6 ⟨g, rfl, hy, hv⟩; have HGX := hide hy; have HE6 := hide hv; clear hv hy)
          | (go_at_call 22; go_must (refine (w_next (unhide HE6)).mono ?_); rintro e w7 ⟨rfl, hv⟩; have HE7 := hide hv; clear hv)
          | (go_at_call 19; have _x := unhide HE13; go_must (refine (runes_any w13 y1.a y2.a y1.xs y2.xs y1.cap y2.cap ((unhide HE13).part (i := 3) rfl).runes ((unhide HE13).part (i := 4) rfl).runes (by rw [unhide HY1]; have h1 := endsM_len false p.xs; have h2 := unhide HLP; omega)).mono ?_); rw [decide_eq_true (show y1.xs = y2.xs by rw [unhide HY1, unhide HY2])]; rintro e w14 ⟨rfl, hb⟩; have HE14 := hide ((unhide HE13).more hb); clear hb)
          | (go_at_call 19; go_must (refine (runes_any w7 g.a u.a g.xs u.xs g.cap u.cap ((unhide HE7).part (i := 3) rfl).runes ((unhide HE7).part (i := 2) rfl).runes (by rw [unhide HGX]; have h2 := unhide HUL; omega)).mono ?_); rw [decide_eq_true (unhide HGX)]; rintro e w8 ⟨rfl, hb⟩; have HE8 := hide ((unhide HE7).more hb); clear hb)
          | (go_at_call 23; go_must (refine (w_unmark (unhide HE8)).mono ?_); rintro e w9 ⟨rfl, hv⟩; have HE9 := hide hv; clear hv)
          | (go_at_call 9; go_must (refine (env_new (unhide HE9)).mono ?_); rintro e w10 ⟨bT, rfl, hv⟩; have HE10 := hide (show Env w w10 [strOb _ bS (finM (gotM p.xs)), partOb _ p, strOb _ bT newM] from hv); clear hv)
          | (go_at_call 16; go_must (refine (w_feed2 (unhide HE10) (unhide HLP)).mono ?_); rintro e w11 ⟨rfl, hv⟩; have HE10b := hide hv; clear hv)
          | (go_at_call 17; go_must (refine (w_end2 (unhide HE10b)).mono ?_); rintro e w11b ⟨rfl, hv⟩; have HE11 := hide hv; clear hv))
        go_ret
        exact ⟨rfl, (unhide HE14).bel⟩
end Go.Proofs.Ytlhebbhpcepfhaa
