/-
  StackScopes' walk.
-/
import Derived.Test.YtmllhebmaldgfaaQa
namespace Go.Proofs.Ytmllhebmaldgfaa
open Go.RowKit

set_option maxHeartbeats 16000000 in
theorem scopes_walk (l : List Cal) (a : Option Addr) (cap : Nat) (name : ByteArray) (w : World) (hin : ElsIn w a l) (hl : l.length ≤ 140737488351232) :
    Calls Try.prog 4 #[.slice a l.length cap, .string name] w fun e w' => e = .returned (.bool true) ∧ Below w.heap.size w w' := by
  have HAR := hide (arenas_any w a l cap hin hl)
  generalize ksL l = ks at *
  generalize l.length = ll at *
  clear hin hl
  go_enter Try.func4, Try.ntmps4
  go_wp2_with (first
    | (go_at_call 9; refine (unhide HAR).mono ?_; rintro e w1 ⟨bA, bR, rfl, hv⟩; have H1 := hide hv; clear hv)
    | (go_at_call 10; refine (env_snew (unhide H1) (i := 0) (bA := bA) rfl).mono ?_; rintro e w2 ⟨bK, rfl, hv⟩; have H2 := hide hv; clear hv))
  obtain ⟨N, hN⟩ : ∃ N, ks.length = N := ⟨_, rfl⟩
  have hNm : N ≤ 32768 ∧ 0 < N := by have := (unhide H2).most (i := 0) (bA := bA) rfl; omega
  have hNz : (N : Int) ≤ 32768 := by omega
  have hN1 : (1 : Int) ≤ (N : Int) := by omega
  have HLEN : Hid (∀ wx (o : Ob w.heap.size), Env w wx [arOb _ bA ks, rfOb _ bR ks, o] → Calls Try.prog 17 #[.pointer (some ⟨bA, 0, none⟩)] wx fun e w' => e = .returned (.int .i64 (N : Int)) ∧ wx = w') := hide (fun wx o hv => by
    have := env_alen hv (i := 0) (bA := bA) (ks := ks) rfl
    rw [hN] at this
    exact this)
  have HN := hide hN
  clear hN
  go_loopg [9, 10, 11, 12] (N - 1) (fun g s9 s10 _ _ wr => ∃ i : Nat, s10 = .int .i64 (i : Int) ∧ s9 = .bool (thereM ks name (elsTo ks i)) ∧ 1 ≤ i ∧ i ≤ N + 1 ∧ g = N - i ∧ Env w wr [arOb _ bA ks, rfOb _ bR ks, stOb _ bK bA ks (elsTo ks i)])
  case atStart => exact ⟨1, rfl, rfl, Nat.le_refl _, by omega, rfl, unhide H2⟩
  case round =>
    obtain ⟨i, rfl, rfl, hi1, hiN, hg, hv⟩ := hrel
    have HV := hide hv
    clear hv
    have hi1z : (1 : Int) ≤ (i : Int) := by omega
    have hiNz : (i : Int) ≤ 32769 := by omega
    by_cases hlt : i < N - 1
    · have hltz : (i : Int) < (N : Int) - 1 := by omega
      obtain ⟨q, hq⟩ : ∃ q, ks[i]? = some q := ⟨_, List.getElem?_eq_getElem (by rw [unhide HN]; omega)⟩
      have hka : keyAt ks (i : Int) = some q := by unfold keyAt; rw [if_pos (by omega), Int.toNat_natCast]; exact hq
      have HQ := hide hka
      obtain ⟨qk, qs, qn⟩ := q
      by_cases hk1 : qk = 1
      · subst hk1
        have hel : elOf ks (i : Int) = some ⟨qs, qn⟩ := by rw [elOf_key hka]; rfl
        have hsome : (elOf ks (i : Int)).isSome = true := by rw [hel]; rfl
        have hcal : calOf ks (i : Int) = ⟨qs, qn⟩ := by unfold calOf; rw [hel]; rfl
        have hth : thereM ks name (elsTo ks (i + 1)) = (thereM ks name (elsTo ks i) || (qs == 0 && (qn.toList == name.toList))) := by rw [els_last hi1 hsome, thereM_snoc, hcal, namedM_eq]
        have HPU : Hid (∀ wx (cs : Array Value) (K : Nat), Env w wx ([arOb _ bA ks, rfOb _ bR ks, stOb _ bK bA ks (elsTo ks i)] ++ [blkOb _ K cs 44]) → Calls Try.prog 19 #[.pointer (some ⟨bK, 0, none⟩), .int .i64 (i : Int)] wx fun e w' => e = .returned (.int .i64 0) ∧ Env w w' [arOb _ bA ks, rfOb _ bR ks, stOb _ bK bA ks (elsTo ks (i + 1)), blkOb _ K cs 44]) := hide (fun wx cs K hv => by
          have := env_push hv (i := 0) (j := 2) (bK := bK) (bA := bA) rfl rfl (by decide) (good_els ks i) (i : Int)
          rw [(els_yes hi1 hsome).1, (els_yes hi1 hsome).2] at this
          exact this)
        clear hq hka hel hsome hcal
        cases htm : thereM ks name (elsTo ks i) with
        | true =>
          rw [htm] at hth
          have HTH : Hid (thereM ks name (elsTo ks (i + 1)) = true) := hide (by rw [hth]; rfl)
          clear hth htm
          go_wp2_with (first | (go_at_call 17; refine ((unhide HLEN) _ _ (unhide HV)).mono ?_; rintro e w1 ⟨rfl, rfl⟩) | (go_at_call 18; refine (env_node (unhide HV) (i := 0) (bA := bA) rfl (unhide HQ)).mono ?_; rintro e w3 ⟨n, ao, mm, cc, rfl, hq, hv⟩; obtain ⟨nk, nsp, nnm, nav, nda, nsy, npa, nfi, nla, npr, nne, nin, nat⟩ := n; simp only [nodeV, NodeM.cells]; simp only [keyN, Key.mk.injEq] at hq; obtain ⟨rfl, rfl, rfl⟩ := hq; have E3 := hide hv; clear hv) | (go_at_call 19; refine ((unhide HPU) _ _ _ ((unhide E3).boxed _ _)).mono ?_; rintro e w5 ⟨rfl, hv⟩; have hb := hv.block (i := 3) rfl; have y1 : w5.cell? ⟨w3.heap.size, 1, none⟩ = some (.int .i64 nsp) := (by simp [World.cell?, hb]); have y2 : w5.cell? ⟨w3.heap.size, 2, none⟩ = some (.string nnm) := (by simp [World.cell?, hb]); have E5 := hide (hv.take 3); clear hv hb))
          go_roundg (gk - 1)
          case measure => omega
          case rel => exact ⟨i + 1, by go_num, by rw [unhide HTH], by omega, by omega, by omega, unhide E5⟩
        | false =>
          rw [htm] at hth
          cases hs0 : (qs == 0) with
          | false =>
            rw [hs0] at hth
            have HTH : Hid (thereM ks name (elsTo ks (i + 1)) = false) := hide (by rw [hth]; rfl)
            clear hth htm
            go_wp2_with (first | (go_at_call 17; refine ((unhide HLEN) _ _ (unhide HV)).mono ?_; rintro e w1 ⟨rfl, rfl⟩) | (go_at_call 18; refine (env_node (unhide HV) (i := 0) (bA := bA) rfl (unhide HQ)).mono ?_; rintro e w3 ⟨n, ao, mm, cc, rfl, hq, hv⟩; obtain ⟨nk, nsp, nnm, nav, nda, nsy, npa, nfi, nla, npr, nne, nin, nat⟩ := n; simp only [nodeV, NodeM.cells]; simp only [keyN, Key.mk.injEq] at hq; obtain ⟨rfl, rfl, rfl⟩ := hq; have E3 := hide hv; clear hv) | (go_at_call 19; refine ((unhide HPU) _ _ _ ((unhide E3).boxed _ _)).mono ?_; rintro e w5 ⟨rfl, hv⟩; have hb := hv.block (i := 3) rfl; have y1 : w5.cell? ⟨w3.heap.size, 1, none⟩ = some (.int .i64 nsp) := (by simp [World.cell?, hb]); have y2 : w5.cell? ⟨w3.heap.size, 2, none⟩ = some (.string nnm) := (by simp [World.cell?, hb]); have E5 := hide (hv.take 3); clear hv hb))
            go_roundg (gk - 1)
            case measure => omega
            case rel => exact ⟨i + 1, by go_num, by rw [unhide HTH], by omega, by omega, by omega, unhide E5⟩
          | true =>
            rw [hs0] at hth
            cases hnm : (qn.toList == name.toList) with
            | true =>
              rw [hnm] at hth
              have HTH : Hid (thereM ks name (elsTo ks (i + 1)) = true) := hide (by rw [hth]; rfl)
              clear hth htm
              go_wp2_with (first | (go_at_call 17; refine ((unhide HLEN) _ _ (unhide HV)).mono ?_; rintro e w1 ⟨rfl, rfl⟩) | (go_at_call 18; refine (env_node (unhide HV) (i := 0) (bA := bA) rfl (unhide HQ)).mono ?_; rintro e w3 ⟨n, ao, mm, cc, rfl, hq, hv⟩; obtain ⟨nk, nsp, nnm, nav, nda, nsy, npa, nfi, nla, npr, nne, nin, nat⟩ := n; simp only [nodeV, NodeM.cells]; simp only [keyN, Key.mk.injEq] at hq; obtain ⟨rfl, rfl, rfl⟩ := hq; have E3 := hide hv; clear hv) | (go_at_call 19; refine ((unhide HPU) _ _ _ ((unhide E3).boxed _ _)).mono ?_; rintro e w5 ⟨rfl, hv⟩; have hb := hv.block (i := 3) rfl; have y1 : w5.cell? ⟨w3.heap.size, 1, none⟩ = some (.int .i64 nsp) := (by simp [World.cell?, hb]); have y2 : w5.cell? ⟨w3.heap.size, 2, none⟩ = some (.string nnm) := (by simp [World.cell?, hb]); have E5 := hide (hv.take 3); clear hv hb))
              go_roundg (gk - 1)
              case measure => omega
              case rel => exact ⟨i + 1, by go_num, by rw [unhide HTH], by omega, by omega, by omega, unhide E5⟩
            | false =>
              rw [hnm] at hth
              have HTH : Hid (thereM ks name (elsTo ks (i + 1)) = false) := hide (by rw [hth]; rfl)
              clear hth htm
              go_wp2_with (first | (go_at_call 17; refine ((unhide HLEN) _ _ (unhide HV)).mono ?_; rintro e w1 ⟨rfl, rfl⟩) | (go_at_call 18; refine (env_node (unhide HV) (i := 0) (bA := bA) rfl (unhide HQ)).mono ?_; rintro e w3 ⟨n, ao, mm, cc, rfl, hq, hv⟩; obtain ⟨nk, nsp, nnm, nav, nda, nsy, npa, nfi, nla, npr, nne, nin, nat⟩ := n; simp only [nodeV, NodeM.cells]; simp only [keyN, Key.mk.injEq] at hq; obtain ⟨rfl, rfl, rfl⟩ := hq; have E3 := hide hv; clear hv) | (go_at_call 19; refine ((unhide HPU) _ _ _ ((unhide E3).boxed _ _)).mono ?_; rintro e w5 ⟨rfl, hv⟩; have hb := hv.block (i := 3) rfl; have y1 : w5.cell? ⟨w3.heap.size, 1, none⟩ = some (.int .i64 nsp) := (by simp [World.cell?, hb]); have y2 : w5.cell? ⟨w3.heap.size, 2, none⟩ = some (.string nnm) := (by simp [World.cell?, hb]); have E5 := hide (hv.take 3); clear hv hb))
              go_roundg (gk - 1)
              case measure => omega
              case rel => exact ⟨i + 1, by go_num, by rw [unhide HTH], by omega, by omega, by omega, unhide E5⟩
      · have hel : elOf ks (i : Int) = none := by rw [elOf_key hka, if_neg hk1]
        have hk1' : (qk == 1) = false := by simpa using hk1
        have HEL := hide (els_no hel)
        clear hq hka hel hk1
        go_wp2_with (first | (go_at_call 17; refine ((unhide HLEN) _ _ (unhide HV)).mono ?_; rintro e w1 ⟨rfl, rfl⟩) | (go_at_call 18; refine (env_node (unhide HV) (i := 0) (bA := bA) rfl (unhide HQ)).mono ?_; rintro e w3 ⟨n, ao, mm, cc, rfl, hq, hv⟩; obtain ⟨nk, nsp, nnm, nav, nda, nsy, npa, nfi, nla, npr, nne, nin, nat⟩ := n; simp only [nodeV, NodeM.cells]; simp only [keyN, Key.mk.injEq] at hq; obtain ⟨rfl, rfl, rfl⟩ := hq; have E3 := hide hv; clear hv))
        go_roundg (gk - 1)
        case measure => omega
        case rel => exact ⟨i + 1, by go_num, by rw [unhide HEL], by omega, by omega, by omega, by rw [unhide HEL]; exact (unhide E3).more (below_new _ _)⟩
    · have hltz : ¬ (i : Int) < (N : Int) - 1 := by omega
      have hg := good_els ks i
      have HS : Hid (∀ wx (k : Int) (r : Bool), scopeM ks (elsTo ks i) name k = r → Env w wx [arOb _ bA ks, rfOb _ bR ks, stOb _ bK bA ks (elsTo ks i)] → Calls Try.prog 20 #[.pointer (some ⟨bK, 0, none⟩), .string name, .int .i64 k] wx fun e w' => e = .returned (.bool r) ∧ Env w w' [arOb _ bA ks, rfOb _ bR ks, stOb _ bK bA ks (elsTo ks i)]) := hide (fun wx k r hr hv => by
        have := env_scope hv (i := 0) (j := 2) (bK := bK) (bA := bA) rfl rfl (by decide) hg name k
        rw [hr] at this
        exact this)
      have Q5 : Hid (scopeM ks (elsTo ks i) name 5 = false) := hide (scope_five ks (elsTo ks i) name)
      have Qn : Hid (scopeM ks (elsTo ks i) name (-1) = false) := hide (scope_neg ks (elsTo ks i) name)
      have f1 : scopeM ks (elsTo ks i) name 1 = true → scopeM ks (elsTo ks i) name 0 = true := scope_list
      have f2 : scopeM ks (elsTo ks i) name 2 = true → scopeM ks (elsTo ks i) name 0 = true := scope_button
      have f3 : scopeM ks (elsTo ks i) name 0 = true → scopeM ks (elsTo ks i) name 3 = true := scope_table
      have f4 : ∀ k, scopeM ks (elsTo ks i) name k = true → thereM ks name (elsTo ks i) = true := fun k h => scope_there h
      generalize scopeM ks (elsTo ks i) name = sc at *
      generalize thereM ks name (elsTo ks i) = th at *
      generalize elsTo ks i = S at *
      clear hg
      cases hr0 : sc 0 with
      | true =>
        have Q0 := hide hr0
        have Q3 := hide (f3 hr0)
        have hth := f4 0 hr0
        subst hth
        clear f1 f2 f3 f4 hr0
        cases hr1 : sc 1 with
        | true =>
          have Q1 := hide hr1
          clear hr1
          have E := HV
          go_wp2_with (first | (go_at_call 17; refine ((unhide HLEN) _ _ (unhide HV)).mono ?_; rintro e w1 ⟨rfl, rfl⟩) | (go_at_call 20; refine ((unhide HS) _ _ _ (by first | exact unhide Q0 | exact unhide Qn | exact unhide Q5 | exact unhide Q1 | exact unhide Q3) (unhide E)).mono ?_; rintro e wn ⟨rfl, hv⟩; have E := hide hv; clear hv))
          go_loopg [14] 5 (fun g s14 wr => ∃ k : Nat, s14 = .int .i64 (k : Int) ∧ k + g = 5 ∧ Env w wr [arOb _ bA ks, rfOb _ bR ks, stOb _ bK bA ks S])
          case atStart => exact ⟨0, rfl, rfl, unhide E⟩
          case round =>
            obtain ⟨k, rfl, hkg, hv⟩ := hrel
            have E := hide hv
            clear hv
            by_cases hk5 : k < 5
            · have hk5z : (k : Int) < 5 := by omega
              cases hsk : sc (k : Int)
              all_goals
                have QK := hide hsk
                clear hsk
                go_wp2_with (first | (go_at_call 20; refine ((unhide HS) _ _ _ (unhide QK) (unhide E)).mono ?_; rintro e wn ⟨rfl, hv⟩; have E := hide hv; clear hv))
                go_roundg (gk - 1)
                case measure => omega
                case rel => exact ⟨k + 1, by go_num, by omega, unhide E⟩
            · have hk5z : ¬ (k : Int) < 5 := by omega
              go_wp2_with (first | (go_at_call 20; refine ((unhide HS) _ _ _ (by first | exact unhide Q0 | exact unhide Qn | exact unhide Q5 | exact unhide Q1 | exact unhide Q3) (unhide E)).mono ?_; rintro e wn ⟨rfl, hv⟩; have E := hide hv; clear hv) | (go_at_call 16; refine (env_awake (unhide E)).mono ?_; rintro e wn ⟨rfl, hv⟩; have E := hide hv; clear hv))
              go_ret
              exact ⟨rfl, (unhide E).bel⟩
        | false =>
          have Q1 := hide hr1
          clear hr1
          cases hr2 : sc 2 with
          | true =>
            have Q2 := hide hr2
            clear hr2
            have E := HV
            go_wp2_with (first | (go_at_call 17; refine ((unhide HLEN) _ _ (unhide HV)).mono ?_; rintro e w1 ⟨rfl, rfl⟩) | (go_at_call 20; refine ((unhide HS) _ _ _ (by first | exact unhide Q0 | exact unhide Qn | exact unhide Q5 | exact unhide Q1 | exact unhide Q2 | exact unhide Q3) (unhide E)).mono ?_; rintro e wn ⟨rfl, hv⟩; have E := hide hv; clear hv))
            go_loopg [14] 5 (fun g s14 wr => ∃ k : Nat, s14 = .int .i64 (k : Int) ∧ k + g = 5 ∧ Env w wr [arOb _ bA ks, rfOb _ bR ks, stOb _ bK bA ks S])
            case atStart => exact ⟨0, rfl, rfl, unhide E⟩
            case round =>
              obtain ⟨k, rfl, hkg, hv⟩ := hrel
              have E := hide hv
              clear hv
              by_cases hk5 : k < 5
              · have hk5z : (k : Int) < 5 := by omega
                cases hsk : sc (k : Int)
                all_goals
                  have QK := hide hsk
                  clear hsk
                  go_wp2_with (first | (go_at_call 20; refine ((unhide HS) _ _ _ (unhide QK) (unhide E)).mono ?_; rintro e wn ⟨rfl, hv⟩; have E := hide hv; clear hv))
                  go_roundg (gk - 1)
                  case measure => omega
                  case rel => exact ⟨k + 1, by go_num, by omega, unhide E⟩
              · have hk5z : ¬ (k : Int) < 5 := by omega
                go_wp2_with (first | (go_at_call 20; refine ((unhide HS) _ _ _ (by first | exact unhide Q0 | exact unhide Qn | exact unhide Q5 | exact unhide Q1 | exact unhide Q2 | exact unhide Q3) (unhide E)).mono ?_; rintro e wn ⟨rfl, hv⟩; have E := hide hv; clear hv) | (go_at_call 16; refine (env_awake (unhide E)).mono ?_; rintro e wn ⟨rfl, hv⟩; have E := hide hv; clear hv))
                go_ret
                exact ⟨rfl, (unhide E).bel⟩
          | false =>
            have Q2 := hide hr2
            clear hr2
            have E := HV
            go_wp2_with (first | (go_at_call 17; refine ((unhide HLEN) _ _ (unhide HV)).mono ?_; rintro e w1 ⟨rfl, rfl⟩) | (go_at_call 20; refine ((unhide HS) _ _ _ (by first | exact unhide Q0 | exact unhide Qn | exact unhide Q5 | exact unhide Q1 | exact unhide Q2 | exact unhide Q3) (unhide E)).mono ?_; rintro e wn ⟨rfl, hv⟩; have E := hide hv; clear hv))
            go_loopg [14] 5 (fun g s14 wr => ∃ k : Nat, s14 = .int .i64 (k : Int) ∧ k + g = 5 ∧ Env w wr [arOb _ bA ks, rfOb _ bR ks, stOb _ bK bA ks S])
            case atStart => exact ⟨0, rfl, rfl, unhide E⟩
            case round =>
              obtain ⟨k, rfl, hkg, hv⟩ := hrel
              have E := hide hv
              clear hv
              by_cases hk5 : k < 5
              · have hk5z : (k : Int) < 5 := by omega
                cases hsk : sc (k : Int)
                all_goals
                  have QK := hide hsk
                  clear hsk
                  go_wp2_with (first | (go_at_call 20; refine ((unhide HS) _ _ _ (unhide QK) (unhide E)).mono ?_; rintro e wn ⟨rfl, hv⟩; have E := hide hv; clear hv))
                  go_roundg (gk - 1)
                  case measure => omega
                  case rel => exact ⟨k + 1, by go_num, by omega, unhide E⟩
              · have hk5z : ¬ (k : Int) < 5 := by omega
                go_wp2_with (first | (go_at_call 20; refine ((unhide HS) _ _ _ (by first | exact unhide Q0 | exact unhide Qn | exact unhide Q5 | exact unhide Q1 | exact unhide Q2 | exact unhide Q3) (unhide E)).mono ?_; rintro e wn ⟨rfl, hv⟩; have E := hide hv; clear hv) | (go_at_call 16; refine (env_awake (unhide E)).mono ?_; rintro e wn ⟨rfl, hv⟩; have E := hide hv; clear hv))
                go_ret
                exact ⟨rfl, (unhide E).bel⟩
      | false =>
        have Q0 := hide hr0
        have Q1 : Hid (sc 1 = false) := hide (by cases h : sc 1; rfl; exact absurd (f1 h) (by rw [hr0]; decide))
        have Q2 : Hid (sc 2 = false) := hide (by cases h : sc 2; rfl; exact absurd (f2 h) (by rw [hr0]; decide))
        cases th with
        | true =>
          clear f1 f2 f3 f4 hr0
          have E := HV
          go_wp2_with (first | (go_at_call 17; refine ((unhide HLEN) _ _ (unhide HV)).mono ?_; rintro e w1 ⟨rfl, rfl⟩) | (go_at_call 20; refine ((unhide HS) _ _ _ (by first | exact unhide Q0 | exact unhide Qn | exact unhide Q5 | exact unhide Q1 | exact unhide Q2) (unhide E)).mono ?_; rintro e wn ⟨rfl, hv⟩; have E := hide hv; clear hv))
          go_loopg [14] 5 (fun g s14 wr => ∃ k : Nat, s14 = .int .i64 (k : Int) ∧ k + g = 5 ∧ Env w wr [arOb _ bA ks, rfOb _ bR ks, stOb _ bK bA ks S])
          case atStart => exact ⟨0, rfl, rfl, unhide E⟩
          case round =>
            obtain ⟨k, rfl, hkg, hv⟩ := hrel
            have E := hide hv
            clear hv
            by_cases hk5 : k < 5
            · have hk5z : (k : Int) < 5 := by omega
              cases hsk : sc (k : Int)
              all_goals
                have QK := hide hsk
                clear hsk
                go_wp2_with (first | (go_at_call 20; refine ((unhide HS) _ _ _ (unhide QK) (unhide E)).mono ?_; rintro e wn ⟨rfl, hv⟩; have E := hide hv; clear hv))
                go_roundg (gk - 1)
                case measure => omega
                case rel => exact ⟨k + 1, by go_num, by omega, unhide E⟩
            · have hk5z : ¬ (k : Int) < 5 := by omega
              go_wp2_with (first | (go_at_call 20; refine ((unhide HS) _ _ _ (by first | exact unhide Q0 | exact unhide Qn | exact unhide Q5 | exact unhide Q1 | exact unhide Q2) (unhide E)).mono ?_; rintro e wn ⟨rfl, hv⟩; have E := hide hv; clear hv) | (go_at_call 16; refine (env_awake (unhide E)).mono ?_; rintro e wn ⟨rfl, hv⟩; have E := hide hv; clear hv))
              go_ret
              exact ⟨rfl, (unhide E).bel⟩
        | false =>
          have HNO : Hid (∀ k, sc k = false) := hide (fun k => by cases h : sc k; rfl; exact absurd (f4 k h) (by decide))
          clear f1 f2 f3 f4 hr0
          have E := HV
          go_wp2_with (first | (go_at_call 17; refine ((unhide HLEN) _ _ (unhide HV)).mono ?_; rintro e w1 ⟨rfl, rfl⟩) | (go_at_call 20; refine ((unhide HS) _ _ _ (by first | exact unhide Q0 | exact unhide Qn | exact unhide Q5 | exact unhide Q1 | exact unhide Q2) (unhide E)).mono ?_; rintro e wn ⟨rfl, hv⟩; have E := hide hv; clear hv))
          go_loopg [14] 5 (fun g s14 wr => ∃ k : Nat, s14 = .int .i64 (k : Int) ∧ k + g = 5 ∧ Env w wr [arOb _ bA ks, rfOb _ bR ks, stOb _ bK bA ks S])
          case atStart => exact ⟨0, rfl, rfl, unhide E⟩
          case round =>
            obtain ⟨k, rfl, hkg, hv⟩ := hrel
            have E := hide hv
            clear hv
            by_cases hk5 : k < 5
            · have hk5z : (k : Int) < 5 := by omega
              have QK : Hid (sc (k : Int) = false) := hide ((unhide HNO) _)
              go_wp2_with (first | (go_at_call 20; refine ((unhide HS) _ _ _ (unhide QK) (unhide E)).mono ?_; rintro e wn ⟨rfl, hv⟩; have E := hide hv; clear hv))
              go_roundg (gk - 1)
              case measure => omega
              case rel => exact ⟨k + 1, by go_num, by omega, unhide E⟩
            · have hk5z : ¬ (k : Int) < 5 := by omega
              go_wp2_with (first | (go_at_call 20; refine ((unhide HS) _ _ _ (by first | exact unhide Q0 | exact unhide Qn | exact unhide Q5 | exact unhide Q1 | exact unhide Q2) (unhide E)).mono ?_; rintro e wn ⟨rfl, hv⟩; have E := hide hv; clear hv) | (go_at_call 16; refine (env_awake (unhide E)).mono ?_; rintro e wn ⟨rfl, hv⟩; have E := hide hv; clear hv))
              go_ret
              exact ⟨rfl, (unhide E).bel⟩
end Go.Proofs.Ytmllhebmaldgfaa
