/-
  The walk of InputNest.
-/
import Derived.Test.YtlhebbhpcepfhaaQa
namespace Go.Proofs.Ytlhebbhpcepfhaa
open Go.RowKit

def nestP (i : Nat) : List (List Int) := (List.range i).map fun (j : Nat) => [97 + (j : Int)]
def nestM (i : Nat) : StrM := ⟨[] :: nestP i, false, false, false⟩
def wantM (i : Nat) : List Int := ((List.range i).map fun (j : Nat) => 97 + (j : Int)).reverse
theorem nestP_len (i : Nat) : (nestP i).length = i := by simp [nestP]
theorem nestP_succ (i : Nat) : nestP (i + 1) = nestP i ++ [[97 + (i : Int)]] := by simp [nestP, List.range_succ]
theorem wantM_succ (i : Nat) : wantM (i + 1) = (97 + (i : Int)) :: wantM i := by simp [wantM, List.range_succ]
theorem wantM_len (i : Nat) : (wantM i).length = i := by simp [wantM]
theorem nest_sum (i : Nat) : ((nestP i).map List.length).sum = i := by
  induction i with
  | zero => rfl
  | succ i ih => rw [nestP_succ]; simp [ih]
theorem nest_len (i : Nat) : (nestM i).len = i := by
  unfold StrM.len nestM
  simp [nest_sum]
theorem nest_mark {i : Nat} (h : i < 21) : markM (nestM i) = (0, ⟨([] :: nestP i) ++ [[]], false, false, false⟩) := by
  unfold markM
  rw [if_pos (by simp [nestM, nestP_len]; omega)]
  rfl
theorem nest_full {i : Nat} (h : 21 ≤ i) : markM (nestM i) = (9, nestM i) := by
  unfold markM
  rw [if_neg (by simp [nestM, nestP_len]; omega)]
theorem ends_plain {x : Int} (h : x ≠ 13) : endsM false [x] = ([x], false) := by
  have e : endM false x = (x, true) := by simp [endM, h]
  simp [endsM, e, h]
theorem last_snoc (A : List (List Int)) (x : List Int) (c e d : Bool) : (StrM.mk (A ++ [x]) c e d).last = x := by
  unfold StrM.last
  simp
theorem set_last (A : List (List Int)) (x y : List Int) : (A ++ [x]).set ((A ++ [x]).length - 1) y = A ++ [y] := by
  rw [List.set_append_right _ _ (by simp)]
  simp
theorem nest_write {i : Nat} (h : i < 21) : writeM ⟨([] :: nestP i) ++ [[]], false, false, false⟩ [97 + (i : Int)] = (0, nestM (i + 1)) := by
  unfold writeM
  rw [if_neg (by simp [nestP_len]), if_pos (by simp [StrM.len, nest_sum]; omega), last_snoc, ends_plain (by omega)]
  simp only [set_last]
  simp [nestM, nestP_succ]
theorem nest_last (i : Nat) : (nestM (i + 1)).last = [97 + (i : Int)] := by
  unfold nestM
  rw [nestP_succ, ← List.cons_append]
  exact last_snoc _ _ _ _ _
theorem nest_drain (i : Nat) : drainM (nestM (i + 1)) = ⟨([] :: nestP i) ++ [[]], false, false, false⟩ := by
  unfold drainM nestM
  rw [nestP_succ, ← List.cons_append]
  simp only [set_last]
theorem unmark_snoc (A : List (List Int)) (hA : 0 < A.length) (c e d : Bool) : unmarkM ⟨A ++ [[]], c, e, d⟩ = (0, ⟨A, c, e, d⟩) := by
  unfold unmarkM
  rw [if_neg (by show ¬ (A ++ [[]]).length = 1; rw [List.length_append]; simp only [List.length_singleton]; omega), last_snoc]
  simp only [List.nil_append, List.length_append, List.length_singleton]
  have h1 : A.length + 1 - 2 = A.length - 1 := by omega
  rw [h1, List.getElem?_append_left (by omega), List.getElem?_eq_getElem (by omega), List.set_append_left _ _ (by omega)]
  simp
theorem nest_unmark (i : Nat) : unmarkM ⟨([] :: nestP i) ++ [[]], false, false, false⟩ = (0, nestM i) := unmark_snoc _ (by simp) _ _ _

/-- A list is another, in new memory. -/
theorem Env.replace {w wx w2 : World} {obs : List (Ob w.heap.size)} (h : Env w wx obs) {i : Nat} {q q' : PartM} (hi : obs[i]? = some (partOb _ q)) (hb : Below wx.heap.size wx w2) (hq : PartAt w2 wx.heap.size q') : Env w w2 (obs.set i (partOb _ q')) := by
  obtain ⟨F, _, _, hk⟩ := h.upd hi
  exact hk w2 (partOb _ q') (fun k => q'.own = some k) ⟨hq.lower h.bel.size, fun _ => Iff.rfl⟩ (Mod.of_below hb) (fun k hk' => .inr (hq.own_lt hk').1)

/-- A list of one, just made. -/
theorem part_one (w : World) (x : Int) : PartAt (w.alloc (.cells #[.int .i32 x] 21)) w.heap.size ⟨some ⟨w.heap.size, 0, none⟩, 1, [x]⟩ :=
  ⟨by simp, by simp [maxLen], .inr ⟨w.heap.size, 0, _, rfl, Nat.le_refl _, heap_alloc_new w _, by simp, fun j y hj => by
    match j, hj with
    | 0, hj => simp at hj; subst hj; rfl⟩⟩

section
variable {w wx : World} {bS : Nat} {q r : PartM}
theorem n_mark {i : Nat} (h : Env w wx [strOb _ bS (nestM i), partOb _ q]) (hi : i < 21) : Calls Try.prog 20 #[.pointer (some ⟨bS, 0, none⟩)] wx fun e w' => e = .returned (.int .i64 0) ∧ Env w w' [strOb _ bS ⟨([] :: nestP i) ++ [[]], false, false, false⟩, partOb _ q] := by
  have := env_mark h (i := 0) (bS := bS) (m := nestM i) rfl
  rw [nest_mark hi] at this
  exact this
theorem n_full {i : Nat} (h : Env w wx [strOb _ bS (nestM i), partOb _ q]) (hi : 21 ≤ i) : Calls Try.prog 20 #[.pointer (some ⟨bS, 0, none⟩)] wx fun e w' => e = .returned (.int .i64 9) ∧ Env w w' [strOb _ bS (nestM i), partOb _ q] := by
  have := env_mark h (i := 0) (bS := bS) (m := nestM i) rfl
  rw [nest_full hi] at this
  exact this
theorem n_write {i : Nat} (h : Env w wx [strOb _ bS ⟨([] :: nestP i) ++ [[]], false, false, false⟩, partOb _ q]) (hi : i < 21) : Calls Try.prog 21 #[.pointer (some ⟨bS, 0, none⟩), .slice (some ⟨wx.heap.size, 0, none⟩) 1 1] (wx.alloc (.cells #[.int .i32 (97 + (i : Int))] 21)) fun e w' => e = .returned (.int .i64 0) ∧ Env w w' [strOb _ bS (nestM (i + 1)), partOb _ q] := by
  have := env_write_new h (i := 0) (bS := bS) rfl (w2 := wx.alloc (.cells #[.int .i32 (97 + (i : Int))] 21)) ((Below.refl _ _).alloc (Nat.le_refl _) _) (some ⟨wx.heap.size, 0, none⟩) [97 + (i : Int)] 1 (one_rune wx _) (fun b off e => by cases e; exact Nat.le_refl _)
  rw [nest_write hi] at this
  exact this
theorem n_all {j : Nat} (h : Env w wx [strOb _ bS (nestM (j + 1)), partOb _ q, partOb _ r]) : Calls Try.prog 18 #[.pointer (some ⟨bS, 0, none⟩)] wx fun e w' => ∃ x, e = .returned x.val ∧ x.xs = [97 + (j : Int)] ∧ Env w w' [strOb _ bS ⟨([] :: nestP j) ++ [[]], false, false, false⟩, partOb _ q, partOb _ r, partOb _ x] := by
  have := env_all h (i := 0) (bS := bS) (m := nestM (j + 1)) rfl (by rw [nest_last]; intro x hx; simp at hx; omega) (by rw [nest_last]; simp)
  rw [nest_last, nest_drain] at this
  exact this
theorem n_unmark {j : Nat} (h : Env w wx [strOb _ bS ⟨([] :: nestP j) ++ [[]], false, false, false⟩, partOb _ q, partOb _ r]) : Calls Try.prog 23 #[.pointer (some ⟨bS, 0, none⟩)] wx fun e w' => e = .returned (.int .i64 0) ∧ Env w w' [strOb _ bS (nestM j), partOb _ q, partOb _ r] := by
  have := env_unmark h (i := 0) (bS := bS) rfl
  rw [nest_unmark] at this
  exact this
theorem n_marks {j : Nat} (h : Env w wx [strOb _ bS (nestM j), partOb _ q, partOb _ r]) : Calls Try.prog 13 #[.pointer (some ⟨bS, 0, none⟩)] wx fun e w' => e = .returned (.int .i64 (j : Int)) ∧ wx = w' := by
  have := env_marks h (i := 0) (bS := bS) (m := nestM j) rfl
  rw [show (((nestM j).parts.length : Int) - 1) = (j : Int) by simp [nestM, nestP_len]] at this
  exact this
theorem n_len {j : Nat} (h : Env w wx [strOb _ bS (nestM j), partOb _ q, partOb _ r]) : Calls Try.prog 12 #[.pointer (some ⟨bS, 0, none⟩)] wx fun e w' => e = .returned (.int .i64 (j : Int)) ∧ wx = w' := by
  have := env_len h (i := 0) (bS := bS) (m := nestM j) rfl
  rw [nest_len] at this
  exact this
end

set_option maxHeartbeats 4000000 in
theorem inputNest_walk (w : World) (x : Int) (hx0 : 0 ≤ x) (hx1 : x ≤ 255) : Calls Try.prog 6 #[.int .u8 x] w fun e w' => e = .returned (.bool true) ∧ Below w.heap.size w w' := by
  obtain ⟨k, hk⟩ : ∃ k : Nat, (k : Int) = x % 30 := ⟨(x % 30).toNat, by omega⟩
  have hkb : (k : Int) < 30 := by omega
  have hcv : IntKind.i64.wrap (x % 30) = (k : Int) := by rw [IntKind.wrap_i64]; omega
  clear hk
  go_enter Try.func6, Try.ntmps6
  go_wp2_with (go_at_call 9; go_must (refine (env_new (Env.start w)).mono ?_); rintro e w1 ⟨bS, rfl, hE⟩; have HE := hide (show Env w w1 [strOb _ bS (nestM 0), partOb _ ⟨none, 0, []⟩] from hE.nil); clear hE)
  go_loopg [5, 6] k (fun gx s5 s6 wx => ∃ (i : Nat) (q : PartM), s6 = .int .i64 i ∧ s5 = q.val ∧ i + gx = k ∧ q.xs = wantM (min i 21) ∧ Env w wx [strOb _ bS (nestM (min i 21)), partOb _ q])
  case atStart => exact ⟨0, ⟨none, 0, []⟩, rfl, rfl, by omega, rfl, unhide HE⟩
  case round =>
    obtain ⟨i, q, rfl, rfl, hig, hq, hE⟩ := hrel
    have HG := hide hig
    have HQ := hide hq
    have HEE := hide hE
    clear HE
    by_cases hik : i < k
    · have hiz : (i : Int) < (k : Int) := by omega
      have hw1 : IntKind.i64.wrap ((i : Int) + 1) = (i : Int) + 1 := by rw [IntKind.wrap_i64]; omega
      have HI := hide hik
      by_cases h21 : i < 21
      · have h20 : (i : Int) ≤ 20 := by omega
        have hcr : IntKind.i32.wrap (97 + (i : Int)) = 97 + (i : Int) := by rw [IntKind.wrap_i32]; omega
        have e1 : min i 21 = i := by omega
        have e2 : min (i + 1) 21 = i + 1 := by omega
        rw [e1] at HQ HEE
        have HE2 := hide e2
        have H21 := hide h21
        clear hig hq hE hik h21 e1 e2
        go_wp2_with (first
          | (go_at_call 20; go_must (refine (n_mark (unhide HEE) (unhide H21)).mono ?_); rintro e w2 ⟨rfl, hv⟩; have HV2 := hide hv; clear hv)
          | (go_at_call 21; go_must (refine (n_write (unhide HV2) (unhide H21)).mono ?_); rintro e w3 ⟨rfl, hv⟩; have HV3 := hide hv; clear hv)
          | (at_builtin; go_must (refine wpList_part_append (base := w3.heap.size) (p := ⟨some ⟨w3.heap.size, 0, none⟩, 1, [97 + (i : Int)]⟩) (by rfl) _ _ (by rfl) (by rfl) q.a q.xs q.cap (by rfl) (by exact part_one w3 _) (by simp) (by exact ((unhide HV3).part (i := 1) rfl).runes.below ((Below.refl _ _).alloc (Nat.le_refl _) _)) (by rw [unhide HQ, wantM_len]; have := unhide H21; simp; omega) ?_); intro q' w4 g1 g2 g3 g4 g5; have HN1 := hide g1; have HN2 := hide g2; have HN3 := hide g3; clear g1 g2 g3 g4 g5))
        go_roundg (gk - 1)
        case measure => have := unhide HG; have := unhide HI; omega
        case rel =>
          refine ⟨i + 1, q', by go_num, rfl, by have := unhide HG; have := unhide HI; omega, by rw [unhide HE2, unhide HN2, unhide HQ, wantM_succ]; rfl, ?_⟩
          rw [unhide HE2]
          have B1 : Below w3.heap.size w3 (w3.alloc (.cells #[.int .i32 (97 + (i : Int))] 21)) := (Below.refl _ _).alloc (Nat.le_refl _) _
          have B2 : Below w3.heap.size w3 w4 := B1.trans ((Mod.grown (F := fun k => k = w3.heap.size) (unhide HN3) (fun k hk => by simp [PartM.own] at hk; exact hk.symm)).below B1.size (fun k hk => by omega))
          exact (unhide HV3).replace (i := 1) rfl B2 (unhide HN1)
      · have h20 : ¬ (i : Int) ≤ 20 := by omega
        have e1 : min i 21 = 21 := by omega
        have e2 : min (i + 1) 21 = 21 := by omega
        rw [e1] at HQ HEE
        have HE2 := hide e2
        clear hig hq hE hik h21 e1 e2
        go_wp2_with (go_at_call 20; go_must (refine (n_full (unhide HEE) (Nat.le_refl _)).mono ?_); rintro e w2 ⟨rfl, hv⟩; have HV2 := hide hv; clear hv)
        go_roundg (gk - 1)
        case measure => have := unhide HG; have := unhide HI; omega
        case rel => exact ⟨i + 1, q, by go_num, rfl, by have := unhide HG; have := unhide HI; omega, by rw [unhide HE2]; exact unhide HQ, by rw [unhide HE2]; exact unhide HV2⟩
    · have hiz : ¬ (i : Int) < (k : Int) := by omega
      obtain ⟨n, hn⟩ : ∃ n, n = min i 21 := ⟨_, rfl⟩
      have hn21 : n ≤ 21 := by omega
      rw [← hn] at HQ HEE
      clear hig hq hE hik hn
      go_wp2
      go_loopg [8] n (fun gx s8 wx => ∃ (g : PartM), s8 = g.val ∧ g.xs ++ wantM gx = wantM n ∧ Env w wx [strOb _ bS (nestM gx), partOb _ q, partOb _ g])
      case atStart => exact ⟨⟨none, 0, []⟩, rfl, rfl, (unhide HEE).nil⟩
      case round =>
        obtain ⟨g, rfl, hgx, hE⟩ := hrel
        have HX := hide hgx
        have HE := hide hE
        clear hgx hE HEE
        by_cases h0 : gk = 0
        · subst h0
          have HR : Hid (g.xs = q.xs) := hide (by have := unhide HX; rw [unhide HQ, ← this]; simp [wantM])
          have HRU := hide (runes_any wr g.a q.a g.xs q.xs g.cap q.cap ((unhide HE).part (i := 2) rfl).runes ((unhide HE).part (i := 1) rfl).runes (by rw [unhide HR, unhide HQ, wantM_len]; omega))
          rw [decide_eq_true (unhide HR)] at HRU
          go_wp2_with (first
            | (go_at_call 13; go_must (refine (n_marks (unhide HE)).mono ?_); rintro e w2 ⟨rfl, rfl⟩)
            | (go_at_call 19; go_must (refine (unhide HRU).mono ?_); rintro e w2 ⟨rfl, hb⟩; have HV2 := hide ((unhide HE).more hb); clear hb)
            | (go_at_call 12; go_must (refine (n_len (unhide HV2)).mono ?_); rintro e w3 ⟨rfl, rfl⟩)
            | (go_at_call 14; go_must (refine (awake_any _).mono ?_); rintro e w3 ⟨rfl, hb⟩; have HV3 := hide ((unhide HV2).more hb); clear hb))
          go_ret
          exact ⟨rfl, (unhide HV3).bel⟩
        · obtain ⟨j, rfl⟩ : ∃ j, gk = j + 1 := ⟨gk - 1, by omega⟩
          have hj : (0 : Int) < ((j + 1 : Nat) : Int) := by omega
          have HGL : Hid (g.xs.length + 1 ≤ 35184372088832) := hide (by have := congrArg List.length (unhide HX); rw [List.length_append, wantM_len, wantM_len] at this; omega)
          clear h0
          go_wp2_with (first
            | (go_at_call 13; go_must (refine (n_marks (unhide HE)).mono ?_); rintro e w2 ⟨rfl, rfl⟩)
            | (go_at_call 18; go_must (refine (n_all (unhide HE)).mono ?_); rintro e w2 ⟨t, rfl, ht, hv⟩; have HT := hide ht; have HV2 := hide hv; clear hv ht)
            | (at_builtin; go_must (refine wpList_part_append (base := w.heap.size) (p := g) (by rfl) _ _ (by rfl) (by rfl) t.a t.xs t.cap (by rfl) (by exact (unhide HV2).part (i := 2) rfl) (by exact (unhide HV2).bel.size) (by exact ((unhide HV2).part (i := 3) rfl).runes) (by rw [unhide HT]; exact unhide HGL) ?_); intro g' w3 g1 g2 g3 g4 g5; have HN2 := hide g2; have HV3 := hide (show Env w w3 [strOb _ bS ⟨([] :: nestP j) ++ [[]], false, false, false⟩, partOb _ q, partOb _ g'] from ((unhide HV2).appended (i := 2) rfl g1 g3 g4).take 3); clear g1 g2 g3 g4 g5)
            | (go_at_call 23; go_must (refine (n_unmark (unhide HV3)).mono ?_); rintro e w4 ⟨rfl, hv⟩; have HV4 := hide hv; clear hv))
          go_roundg j
          case measure => omega
          case rel => exact ⟨g', rfl, by rw [unhide HN2, unhide HT, ← unhide HX, wantM_succ]; simp, unhide HV4⟩
end Go.Proofs.Ytlhebbhpcepfhaa
