/-
  HTMLPoint, the program's and the document's; AdjustPoints' walk.
-/
import Derived.Test.YtgbinemombgckaaBe
namespace Go.Proofs.Ytgbinemombgckaa
open Go.RowKit Go.Lib

def htmlM (sp : Int) (n : ByteArray) (l : List AttrM) : Bool := if sp == 1 then (n.toList == [97, 110, 110, 111, 116, 97, 116, 105, 111, 110, 45, 120, 109, 108]) && holdsM l else if sp == 2 then hasM htmlP n else false

theorem htmlPoint_any (sp : Int) (n : ByteArray) (l : List AttrM) (a : Option Addr) (cap : Nat) (w : World) (hin : AttrsIn w a l) (hl : l.length * 56 ≤ 140737488351232) : Calls Try.prog 18 #[.int .i64 sp, .string n, .slice a l.length cap] w fun e w' => e = .returned (.bool (htmlM sp n l)) ∧ Below w.heap.size w w' := by
  have HC : Hid (Calls Try.prog 33 #[.slice (some ⟨w.heap.size, 0, none⟩) 3 3, .string n] (w.alloc (.cells (sRow htmlP) 9)) fun e w' => e = .returned (.bool (hasM htmlP n)) ∧ w' = (w.alloc (.cells (sRow htmlP) 9))) := hide (contains_any htmlP (by decide) n w.heap.size _ (tab_new w htmlP))
  have HS := hide (htmlP_any w)
  have HB := hide (below_new w (.cells (sRow htmlP) 9))
  have HH := hide (holdsHTML_any l a cap w hin hl)
  clear hin hl
  unfold htmlM
  generalize hasM htmlP n = r at HC
  generalize holdsM l = h at HH
  generalize w.alloc (.cells (sRow htmlP) 9) = w1 at HC HS HB
  by_cases h1 : sp = 1
  · subst h1
    rw [show ((1 : Int) == 1) = true from rfl, if_pos rfl]
    cases hn : (n.toList == [97, 110, 110, 111, 116, 97, 116, 105, 111, 110, 45, 120, 109, 108]) with
    | true =>
      go_enter Try.func18, Try.ntmps18
      go_wp2_with (go_at_call 35; refine (unhide HH).mono ?_; rintro e w' ⟨rfl, hb⟩; have HB' := hide hb; clear hb)
      go_ret
      exact ⟨rfl, unhide HB'⟩
    | false =>
      go_enter Try.func18, Try.ntmps18
      go_wp2
      go_ret
      exact ⟨rfl, Below.refl _ w⟩
  · have h1b : (sp == 1) = false := by simp [h1]
    rw [h1b, if_neg Bool.false_ne_true]
    by_cases h2 : sp = 2
    · subst h2
      rw [show ((2 : Int) == 2) = true from rfl, if_pos rfl]
      clear h1 h1b
      go_enter Try.func18, Try.ntmps18
      go_wp2_with (first | (go_at_call 36; refine (unhide HS).mono ?_; rintro e w' ⟨rfl, rfl⟩) | (go_at_call 33; refine (unhide HC).mono ?_; rintro e w' ⟨rfl, rfl⟩))
      go_ret
      exact ⟨rfl, unhide HB⟩
    · have h2b : (sp == 2) = false := by simp [h2]
      rw [h2b, if_neg Bool.false_ne_true]
      go_enter Try.func18, Try.ntmps18
      go_wp2
      go_ret
      exact ⟨rfl, Below.refl _ w⟩

theorem htmlP_L : htmlP.map (·.data.toList) = [[102, 111, 114, 101, 105, 103, 110, 79, 98, 106, 101, 99, 116], [100, 101, 115, 99], [116, 105, 116, 108, 101]] := rfl
theorem enc_list : encS.toList = [101, 110, 99, 111, 100, 105, 110, 103] := by rw [toList_data]; rfl
theorem txt_list : txtS.toList = [116, 101, 120, 116, 47, 104, 116, 109, 108] := by rw [toList_data]; rfl
theorem xht_list : xhtS.toList = [97, 112, 112, 108, 105, 99, 97, 116, 105, 111, 110, 47, 120, 104, 116, 109, 108, 43, 120, 109, 108] := by rw [toList_data]; rfl
theorem AttrsIn.cellsOf {w : World} {b off : Nat} {l : List AttrM} (h : AttrsIn w (some ⟨b, off, none⟩) l) {i : Nat} {x : AttrM} (hx : l[i]? = some x) : w.cell? ⟨b, off + i * 4, none⟩ = some (.int .i64 x.space) ∧ w.cell? ⟨b, off + i * 4 + 2, none⟩ = some (.string x.name) ∧ w.cell? ⟨b, off + i * 4 + 3, none⟩ = some (.string x.val) := by
  obtain ⟨b', off', e, c0, _, c2, c3⟩ := h.cells i x hx
  cases e
  exact ⟨c0, c2, c3⟩

set_option maxHeartbeats 4000000 in
theorem rhtml_loop (n : ByteArray) (hn : (n.toList == [97, 110, 110, 111, 116, 97, 116, 105, 111, 110, 45, 120, 109, 108]) = true) (l : List AttrM) (a : Option Addr) (cap : Nat) (w : World) (hin : AttrsIn w a l) (hl : l.length * 56 ≤ 140737488351232) (hf : ∀ z ∈ l, Fits z) : Calls Try.prog 19 #[.int .i64 1, .string n, .slice a l.length cap] w fun e w' => e = .returned (.bool (holdsM l)) ∧ Below w.heap.size w w' := by
  have HIN := hide hin
  have HF := hide hf
  have hlz : (l.length : Int) ≤ 140737488355328 := by omega
  have hnb : (!(n.toList == [97, 110, 110, 111, 116, 97, 116, 105, 111, 110, 45, 120, 109, 108])) = false := by rw [hn]; rfl
  clear hin hf hl
  go_enter Try.func19, Try.ntmps19
  go_wp2
  go_loopg [7, 8] l.length (fun k s7 _ wx => ∃ j : Nat, j + k = l.length ∧ s7 = .int .i64 j ∧ wx = w ∧ (∀ i s, i < j → l[i]? = some s → isName s encS = false))
  case atStart => exact ⟨0, by omega, rfl, rfl, fun i s hi => absurd hi (Nat.not_lt_zero _)⟩
  case round =>
    obtain ⟨j, hjg, rfl, rfl, hno⟩ := hrel
    have HN := hide hno
    clear hno
    by_cases hj : j < l.length
    · have hjz : (j : Int) < (l.length : Int) := by omega
      obtain ⟨x, hx⟩ : ∃ x, l[j]? = some x := ⟨_, List.getElem?_eq_getElem hj⟩
      obtain ⟨b, off, rfl⟩ := Addr.of_lt (unhide HIN) (Nat.lt_of_le_of_lt (Nat.zero_le _) hj)
      obtain ⟨c0, c2, c3⟩ := (unhide HIN).cellsOf hx
      have hfx := unhide HF x (List.mem_of_getElem? hx)
      have HX := hide hx
      have hnx : isName x encS = (x.space == 0 && x.name.toList == [101, 110, 99, 111, 100, 105, 110, 103]) := by unfold isName; rw [enc_list]
      have hstep : ∀ q, isName x encS = q → q = false → ∀ i s, i < j + 1 → l[i]? = some s → isName s encS = false := fun q h1 h2 i s hi hs => by
        by_cases e : i = j
        · subst e; rw [unhide HX] at hs; cases hs; rw [h1, h2]
        · exact (unhide HN) i s (by omega) hs
      have HSTEP := hide (hstep (isName x encS) rfl)
      clear hx hstep
      cases h0 : (x.space == 0) with
      | false =>
        have HS2 := hide ((unhide HSTEP) (by rw [hnx, h0]; rfl))
        clear hnx hfx
        go_wp2
        go_roundg (gk - 1)
        case measure => omega
        case rel => exact ⟨j + 1, by omega, by go_num, rfl, unhide HS2⟩
      | true =>
        cases hq : (x.name.toList == [101, 110, 99, 111, 100, 105, 110, 103]) with
        | false =>
          have HS2 := hide ((unhide HSTEP) (by rw [hnx, h0, hq]; rfl))
          clear hnx hfx
          go_wp2
          go_roundg (gk - 1)
          case measure => omega
          case rel => exact ⟨j + 1, by omega, by go_num, rfl, unhide HS2⟩
        | true =>
          have HFA := hide (findA_at (p := fun x => isName x encS) (unhide HX) (by show isName x encS = true; rw [hnx, h0, hq]; rfl) (unhide HN))
          have hcall := fun W => rsmall_any x.val W (by have := hfx.2.2; omega)
          have ht := low_eq x.val txtS
          have hx' := low_eq x.val xhtS
          rw [txt_list] at ht
          rw [xht_list] at hx'
          have HCALL := hide hcall
          have HM : Hid (holdsM l = (isM x.val txtS || isM x.val xhtS)) := hide (by unfold holdsM; rw [unhide HFA])
          clear hnx hfx hcall HFA HSTEP
          generalize lowS x.val = v at HCALL ht hx'
          generalize isM x.val txtS = bt at ht HM
          generalize isM x.val xhtS = bx at hx' HM
          cases bt with
          | true =>
            go_wp2_with (go_at_call 37; refine (unhide HCALL _).mono ?_; rintro e w1 ⟨rfl, hb1⟩; have HB1 := hide hb1; clear hb1)
            go_ret
            exact ⟨by rw [unhide HM]; rfl, unhide HB1⟩
          | false =>
            go_wp2_with (go_at_call 37; refine (unhide HCALL _).mono ?_; rintro e w1 ⟨rfl, hb1⟩; have HB1 := hide hb1; clear hb1)
            go_ret
            exact ⟨by rw [unhide HM]; exact congrArg (fun v => Ending.returned (Value.bool v)) (by rw [← hx']; rfl), unhide HB1⟩
    · have hjz : ¬ (j : Int) < (l.length : Int) := by omega
      obtain rfl : j = l.length := by omega
      have HFA := hide (findA_none (p := fun x => isName x encS) (unhide HN))
      have HM : Hid (holdsM l = false) := hide (by unfold holdsM; rw [unhide HFA])
      go_wp2
      go_ret
      exact ⟨by rw [unhide HM]; rfl, Below.refl _ _⟩

set_option maxHeartbeats 1000000 in
theorem rhtmlPoint_any (sp : Int) (n : ByteArray) (l : List AttrM) (a : Option Addr) (cap : Nat) (w : World) (hin : AttrsIn w a l) (hl : l.length * 56 ≤ 140737488351232) (hf : ∀ z ∈ l, Fits z) : Calls Try.prog 19 #[.int .i64 sp, .string n, .slice a l.length cap] w fun e w' => e = .returned (.bool (htmlM sp n l)) ∧ Below w.heap.size w w' := by
  unfold htmlM
  by_cases h1 : sp = 1
  · subst h1
    rw [show ((1 : Int) == 1) = true from rfl, if_pos rfl]
    cases hn : (n.toList == [97, 110, 110, 111, 116, 97, 116, 105, 111, 110, 45, 120, 109, 108]) with
    | true => exact rhtml_loop n hn l a cap w hin hl hf
    | false =>
      clear hin hl hf
      have hnb : (!(n.toList == [97, 110, 110, 111, 116, 97, 116, 105, 111, 110, 45, 120, 109, 108])) = true := by rw [hn]; rfl
      go_enter Try.func19, Try.ntmps19
      go_wp2
      go_ret
      exact ⟨rfl, Below.refl _ w⟩
  · have h1b : (sp == 1) = false := by simp [h1]
    rw [h1b, if_neg Bool.false_ne_true]
    clear hin hl hf
    by_cases h2 : sp = 2
    · subst h2
      rw [show ((2 : Int) == 2) = true from rfl, if_pos rfl]
      clear h1 h1b
      rw [L_has, htmlP_L]
      go_enter Try.func19, Try.ntmps19
      go_wp2
      all_goals go_ret
      all_goals (refine ⟨?_, Below.refl _ w⟩; first | (simp [*]; done) | (simp_all; done) | (simp [*, Bool.or_assoc]; done) | (simp [Bool.or_assoc]; done))
    · have h2b : (sp == 2) = false := by simp [h2]
      rw [h2b, if_neg Bool.false_ne_true]
      have h1n : (sp != 1) = true := by simp [h1]
      go_enter Try.func19, Try.ntmps19
      go_wp2
      go_ret
      exact ⟨rfl, Below.refl _ w⟩

set_option maxHeartbeats 1000000 in
theorem adjustPoints_any (sp : Int) (n : ByteArray) (l : List AttrM) (a : Option Addr) (cap : Nat) (w : World) (hin : AttrsIn w a l) (hl : l.length * 56 ≤ 140737488351232) (hf : ∀ z ∈ l, Fits z) : Calls Try.prog 6 #[.int .i64 sp, .string n, .slice a l.length cap] w fun e w' => e = .returned (.bool true) ∧ Below w.heap.size w w' := by
  have H1 := hide (textPoint_any sp n w)
  have H2 := hide (fun W => rtextPoint_any sp n W)
  have H3 := hide (fun W (hW : Below w.heap.size w W) => htmlPoint_any sp n l a cap W (hin.below hW) hl)
  have H4 := hide (fun W (hW : Below w.heap.size w W) => rhtmlPoint_any sp n l a cap W (hin.below hW) hl hf)
  have H5 := hide (fun W => awake_any W)
  generalize textM sp n = b1 at H1 H2
  generalize htmlM sp n l = b2 at H3 H4
  clear hin hl hf
  go_enter Try.func6, Try.ntmps6
  go_wp2_with (first
    | (go_at_call 16; refine (unhide H1).mono ?_; rintro e w1 ⟨rfl, hb1⟩; have HB1 := hide hb1; clear hb1)
    | (go_at_call 17; refine (unhide H2 _).mono ?_; rintro e w2 ⟨rfl, hb2⟩; have HB2 := hide ((unhide HB1).trans (hb2.mono (unhide HB1).size)); clear hb2)
    | (go_at_call 18; refine (unhide H3 _ (unhide HB2)).mono ?_; rintro e w3 ⟨rfl, hb3⟩; have HB3 := hide ((unhide HB2).trans (hb3.mono (unhide HB2).size)); clear hb3)
    | (go_at_call 19; refine (unhide H4 _ (unhide HB3)).mono ?_; rintro e w4 ⟨rfl, hb4⟩; have HB4 := hide ((unhide HB3).trans (hb4.mono (unhide HB3).size)); clear hb4)
    | (go_at_call 10; refine (unhide H5 _).mono ?_; rintro e w5 ⟨rfl, hb5⟩; have HB5 := hide ((unhide HB4).trans (hb5.mono (unhide HB4).size)); clear hb5))
  go_ret
  exact ⟨rfl, unhide HB5⟩
end Go.Proofs.Ytgbinemombgckaa
