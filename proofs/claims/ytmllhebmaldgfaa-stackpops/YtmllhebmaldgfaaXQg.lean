/-
  StackPops' walk, some of its ways.
-/
import Derived.Test.YtmllhebmaldgfaaXQd
namespace Go.Proofs.Ytmllhebmaldgfaa
open Go.RowKit

set_option maxHeartbeats 16000000 in
theorem pops_sa (l : List Cal) (a : Option Addr) (cap : Nat) (name : ByteArray) (w : World) (hin : ElsIn w a l) (hl : l.length ≤ 140737488351232) (ks : List Key) (hks : ksL l = ks) (S : List Int) (hS : elsTo ks (max 1 (ks.length - 1)) = S) (j : Nat) (hp : popToI ks S name = some j) (m : Nat) (x sp : Int) (nm : ByteArray) (hm1e : impN ks S name = m + 1) (htop : topM (S.take (impN ks S name)) = x) (hkey : keyAt ks x = some ⟨1, sp, nm⟩) (hstop : impM ⟨sp, nm⟩ name = false) (hs1 : (sp == 0) = false) :
    Calls Try.prog 5 #[.slice a l.length cap, .string name] w fun e w' => e = .returned (.bool true) ∧ Below w.heap.size w w' := by
  have HAR := hide (arenas_any w a l cap hin hl)
  rw [hks] at HAR
  clear hks
  generalize l.length = ll at *
  clear hin hl
  set_option maxRecDepth 10000 in
  go_enter Try.func5, Try.ntmps5
  go_wp2_with (first
    | (go_at_call 9; refine (unhide HAR).mono ?_; rintro e w1 ⟨bA, bR, rfl, hv⟩; have H1 := hide hv; clear hv)
    | (have _x := unhide H2; clear _x; go_at_call 10; refine (env_snew (unhide H2) (i := 0) (bA := bA) rfl).mono ?_; rintro e w3 ⟨bT, rfl, hv⟩; have H3 := hide hv; clear hv)
    | (go_at_call 10; refine (env_snew (unhide H1) (i := 0) (bA := bA) rfl).mono ?_; rintro e w2 ⟨bK, rfl, hv⟩; have H2 := hide hv; clear hv))
  obtain ⟨N, hN⟩ : ∃ N, ks.length = N := ⟨_, rfl⟩
  have hNm : N ≤ 32768 ∧ 0 < N := by have := (unhide H3).most (i := 0) (bA := bA) rfl; omega
  have hNz : (N : Int) ≤ 32768 := by omega
  have hN1 : (1 : Int) ≤ (N : Int) := by omega
  have HLEN : Hid (∀ wx (o1 o2 : Ob w.heap.size), Env w wx [arOb _ bA ks, rfOb _ bR ks, o1, o2] → Calls Try.prog 17 #[.pointer (some ⟨bA, 0, none⟩)] wx fun e w' => e = .returned (.int .i64 (N : Int)) ∧ wx = w') := hide (fun wx o1 o2 hv => by
    have := env_alen hv (i := 0) (bA := bA) (ks := ks) rfl
    rw [hN] at this
    exact this)
  have HN := hide hN
  rw [hN] at hS
  have HSS := hide hS
  clear hN hS
  go_loopg [11, 12, 13, 14, 15] (N - 1) (fun g s11 s12 s13 _ _ wr => ∃ i : Nat, s13 = .int .i64 (i : Int) ∧ s11 = .int .i64 (lastZ ks (elsTo ks i) name) ∧ s12 = .int .i64 ((elsTo ks i).length : Int) ∧ 1 ≤ i ∧ i ≤ max 1 (N - 1) ∧ g = N - i ∧ Env w wr [arOb _ bA ks, rfOb _ bR ks, stOb _ bK bA ks (elsTo ks i), stOb _ bT bA ks (elsTo ks i)])
  case atStart => exact ⟨1, rfl, rfl, rfl, Nat.le_refl _, by omega, rfl, unhide H3⟩
  case round =>
    obtain ⟨i, rfl, rfl, rfl, hi1, hiN, hg, hv⟩ := hrel
    have HV := hide hv
    clear hv
    have hi1z : (1 : Int) ≤ (i : Int) := by omega
    have hiNz : (i : Int) ≤ 32769 := by omega
    have hSl : (elsTo ks i).length ≤ 32768 := by have := (good_els ks i).len; rw [unhide HN] at this; omega
    have hSz : ((elsTo ks i).length : Int) ≤ 32768 := by omega
    by_cases hlt : i < N - 1
    · have hltz : (i : Int) < (N : Int) - 1 := by omega
      obtain ⟨q, hq⟩ : ∃ q, ks[i]? = some q := ⟨_, List.getElem?_eq_getElem (by rw [unhide HN]; omega)⟩
      have hka : keyAt ks (i : Int) = some q := by unfold keyAt; rw [if_pos (by omega), Int.toNat_natCast]; exact hq
      have HQ := hide hka
      obtain ⟨qk, qs, qn⟩ := q
      by_cases hk1 : qk = 1
      · subst hk1
        have hel : elOf ks (i : Int) = some ⟨qs, qn⟩ := by rw [elOf_key hka]; rfl
        have hsome : (elOf ks (i : Int)).isSome = true := by rw [hel]; rfl
        have hcal : calOf ks (i : Int) = ⟨qs, qn⟩ := by unfold calOf; rw [hel]; rfl
        have hnamed : namedM (calOf ks (i : Int)) name = (qs == 0 && (qn.toList == name.toList)) := by rw [hcal, namedM_eq]
        have hls := els_last hi1 hsome
        have HLE : Hid (((elsTo ks (i + 1)).length : Int) = ((elsTo ks i).length : Int) + 1) := hide (by rw [hls]; simp)
        have HPU1 : Hid (∀ wx (cs : Array Value) (K : Nat), Env w wx ([arOb _ bA ks, rfOb _ bR ks, stOb _ bK bA ks (elsTo ks i), stOb _ bT bA ks (elsTo ks i)] ++ [blkOb _ K cs 44]) → Calls Try.prog 19 #[.pointer (some ⟨bK, 0, none⟩), .int .i64 (i : Int)] wx fun e w' => e = .returned (.int .i64 0) ∧ Env w w' [arOb _ bA ks, rfOb _ bR ks, stOb _ bK bA ks (elsTo ks (i + 1)), stOb _ bT bA ks (elsTo ks i), blkOb _ K cs 44]) := hide (fun wx cs K hv => by
          have := env_push hv (i := 0) (j := 2) (bK := bK) (bA := bA) rfl rfl (by decide) (good_els ks i) (i : Int)
          rw [(els_yes hi1 hsome).1, (els_yes hi1 hsome).2] at this
          exact this)
        have HPU2 : Hid (∀ wx (cs : Array Value) (K : Nat), Env w wx [arOb _ bA ks, rfOb _ bR ks, stOb _ bK bA ks (elsTo ks (i + 1)), stOb _ bT bA ks (elsTo ks i), blkOb _ K cs 44] → Calls Try.prog 19 #[.pointer (some ⟨bT, 0, none⟩), .int .i64 (i : Int)] wx fun e w' => e = .returned (.int .i64 0) ∧ Env w w' [arOb _ bA ks, rfOb _ bR ks, stOb _ bK bA ks (elsTo ks (i + 1)), stOb _ bT bA ks (elsTo ks (i + 1)), blkOb _ K cs 44]) := hide (fun wx cs K hv => by
          have := env_push hv (i := 0) (j := 3) (bK := bT) (bA := bA) rfl rfl (by decide) (good_els ks i) (i : Int)
          rw [(els_yes hi1 hsome).1, (els_yes hi1 hsome).2] at this
          exact this)
        clear hq hka hel hsome hcal
        cases hs0 : (qs == 0) with
        | false =>
          rw [hs0] at hnamed
          have HLZ : Hid (lastZ ks (elsTo ks (i + 1)) name = lastZ ks (elsTo ks i) name) := hide (by rw [hls]; exact lastZ_no hnamed)
          clear hnamed hls
          go_wp2_with (first | (go_at_call 17; refine ((unhide HLEN) _ _ _ (unhide HV)).mono ?_; rintro e w1 ⟨rfl, rfl⟩) | (go_at_call 18; refine (env_node (unhide HV) (i := 0) (bA := bA) rfl (unhide HQ)).mono ?_; rintro e w3 ⟨n, ao, mm, cc, rfl, hq, hv⟩; obtain ⟨nk, nsp, nnm, nav, nda, nsy, npa, nfi, nla, npr, nne, nin, nat⟩ := n; simp only [nodeV, NodeM.cells]; simp only [keyN, Key.mk.injEq] at hq; obtain ⟨rfl, rfl, rfl⟩ := hq; have E3 := hide hv; clear hv) | (have _x := unhide E5; clear _x; go_at_call 19; refine ((unhide HPU2) _ _ _ (unhide E5)).mono ?_; rintro e w6 ⟨rfl, hv⟩; have hb := hv.block (i := 4) rfl; have y1 : w6.cell? ⟨w3.heap.size, 1, none⟩ = some (.int .i64 nsp) := (by simp [World.cell?, hb]); have y2 : w6.cell? ⟨w3.heap.size, 2, none⟩ = some (.string nnm) := (by simp [World.cell?, hb]); have E6 := hide (hv.take 4); clear hv hb) | (go_at_call 19; refine ((unhide HPU1) _ _ _ ((unhide E3).boxed _ _)).mono ?_; rintro e w5 ⟨rfl, hv⟩; have E5 := hide hv; clear hv))
          go_roundg (gk - 1)
          case measure => omega
          case rel => exact ⟨i + 1, by go_num, by rw [unhide HLZ], by rw [unhide HLE], by omega, by omega, by omega, unhide E6⟩
        | true =>
          rw [hs0] at hnamed
          cases hnm : (qn.toList == name.toList) with
          | true =>
            rw [hnm] at hnamed
            have HLZ : Hid (lastZ ks (elsTo ks (i + 1)) name = ((elsTo ks i).length : Int)) := hide (by rw [hls]; exact lastZ_yes hnamed)
            clear hnamed hls
            go_wp2_with (first | (go_at_call 17; refine ((unhide HLEN) _ _ _ (unhide HV)).mono ?_; rintro e w1 ⟨rfl, rfl⟩) | (go_at_call 18; refine (env_node (unhide HV) (i := 0) (bA := bA) rfl (unhide HQ)).mono ?_; rintro e w3 ⟨n, ao, mm, cc, rfl, hq, hv⟩; obtain ⟨nk, nsp, nnm, nav, nda, nsy, npa, nfi, nla, npr, nne, nin, nat⟩ := n; simp only [nodeV, NodeM.cells]; simp only [keyN, Key.mk.injEq] at hq; obtain ⟨rfl, rfl, rfl⟩ := hq; have E3 := hide hv; clear hv) | (have _x := unhide E5; clear _x; go_at_call 19; refine ((unhide HPU2) _ _ _ (unhide E5)).mono ?_; rintro e w6 ⟨rfl, hv⟩; have hb := hv.block (i := 4) rfl; have y1 : w6.cell? ⟨w3.heap.size, 1, none⟩ = some (.int .i64 nsp) := (by simp [World.cell?, hb]); have y2 : w6.cell? ⟨w3.heap.size, 2, none⟩ = some (.string nnm) := (by simp [World.cell?, hb]); have E6 := hide (hv.take 4); clear hv hb) | (go_at_call 19; refine ((unhide HPU1) _ _ _ ((unhide E3).boxed _ _)).mono ?_; rintro e w5 ⟨rfl, hv⟩; have E5 := hide hv; clear hv))
            go_roundg (gk - 1)
            case measure => omega
            case rel => exact ⟨i + 1, by go_num, by rw [unhide HLZ], by rw [unhide HLE], by omega, by omega, by omega, unhide E6⟩
          | false =>
            rw [hnm] at hnamed
            have HLZ : Hid (lastZ ks (elsTo ks (i + 1)) name = lastZ ks (elsTo ks i) name) := hide (by rw [hls]; exact lastZ_no hnamed)
            clear hnamed hls
            go_wp2_with (first | (go_at_call 17; refine ((unhide HLEN) _ _ _ (unhide HV)).mono ?_; rintro e w1 ⟨rfl, rfl⟩) | (go_at_call 18; refine (env_node (unhide HV) (i := 0) (bA := bA) rfl (unhide HQ)).mono ?_; rintro e w3 ⟨n, ao, mm, cc, rfl, hq, hv⟩; obtain ⟨nk, nsp, nnm, nav, nda, nsy, npa, nfi, nla, npr, nne, nin, nat⟩ := n; simp only [nodeV, NodeM.cells]; simp only [keyN, Key.mk.injEq] at hq; obtain ⟨rfl, rfl, rfl⟩ := hq; have E3 := hide hv; clear hv) | (have _x := unhide E5; clear _x; go_at_call 19; refine ((unhide HPU2) _ _ _ (unhide E5)).mono ?_; rintro e w6 ⟨rfl, hv⟩; have hb := hv.block (i := 4) rfl; have y1 : w6.cell? ⟨w3.heap.size, 1, none⟩ = some (.int .i64 nsp) := (by simp [World.cell?, hb]); have y2 : w6.cell? ⟨w3.heap.size, 2, none⟩ = some (.string nnm) := (by simp [World.cell?, hb]); have E6 := hide (hv.take 4); clear hv hb) | (go_at_call 19; refine ((unhide HPU1) _ _ _ ((unhide E3).boxed _ _)).mono ?_; rintro e w5 ⟨rfl, hv⟩; have E5 := hide hv; clear hv))
            go_roundg (gk - 1)
            case measure => omega
            case rel => exact ⟨i + 1, by go_num, by rw [unhide HLZ], by rw [unhide HLE], by omega, by omega, by omega, unhide E6⟩
      · have hel : elOf ks (i : Int) = none := by rw [elOf_key hka, if_neg hk1]
        have hk1' : (qk == 1) = false := by simpa using hk1
        have HEL := hide (els_no hel)
        clear hq hka hel hk1
        go_wp2_with (first | (go_at_call 17; refine ((unhide HLEN) _ _ _ (unhide HV)).mono ?_; rintro e w1 ⟨rfl, rfl⟩) | (go_at_call 18; refine (env_node (unhide HV) (i := 0) (bA := bA) rfl (unhide HQ)).mono ?_; rintro e w3 ⟨n, ao, mm, cc, rfl, hq, hv⟩; obtain ⟨nk, nsp, nnm, nav, nda, nsy, npa, nfi, nla, npr, nne, nin, nat⟩ := n; simp only [nodeV, NodeM.cells]; simp only [keyN, Key.mk.injEq] at hq; obtain ⟨rfl, rfl, rfl⟩ := hq; have E3 := hide hv; clear hv))
        go_roundg (gk - 1)
        case measure => omega
        case rel => exact ⟨i + 1, by go_num, by rw [unhide HEL], by rw [unhide HEL], by omega, by omega, by omega, by rw [unhide HEL]; exact (unhide E3).more (below_new _ _)⟩
    · have hltz : ¬ (i : Int) < (N : Int) - 1 := by omega
      have hgS := good_els ks i
      have hiS : elsTo ks i = S := by rw [← unhide HSS]; congr 1; omega
      clear HSS
      subst hiS
      generalize elsTo ks i = S at *
      generalize hn : S.length = n at *
      have hm1 : impN ks S name ≤ n := by rw [← hn]; exact leaveN_le _ _ _
      have hgT := hgS.sub (List.take_sublist (impN ks S name) S)
      have hlT : (S.take (impN ks S name)).length = impN ks S name := by rw [List.length_take]; omega
      have hm2 : thorN ks (S.take (impN ks S name)) ≤ impN ks S name := by
        have := leaveN_le (fun id => thorM (calOf ks id)) (S.take (impN ks S name)) (S.take (impN ks S name)).length
        rw [hlT] at this
        unfold thorN
        rw [hlT]
        exact this
      have hc2 := thor_cases hgT
      have HIM : Hid (∀ wx S1, Env w wx [arOb _ bA ks, rfOb _ bR ks, stOb _ bK bA ks (S1), stOb _ bT bA ks (S)] → Calls Try.prog 23 #[.pointer (some ⟨bT, 0, none⟩), .string name] wx fun e w' => e = .returned (.int .i64 ((n : Int) - (impN ks S name : Int))) ∧ Env w w' [arOb _ bA ks, rfOb _ bR ks, stOb _ bK bA ks (S1), stOb _ bT bA ks (S.take (impN ks S name))]) := hide (fun wx S1 hv => by
        have := env_implied hv (i := 0) (j := 3) (bK := bT) (bA := bA) rfl rfl (by decide) hgS name
        rw [hn] at this
        exact this)
      have HTH : Hid (∀ wx S1 cs K, Env w wx ([arOb _ bA ks, rfOb _ bR ks, stOb _ bK bA ks (S1), stOb _ bT bA ks (S.take (impN ks S name))] ++ [blkOb _ K cs 44]) → Calls Try.prog 25 #[.pointer (some ⟨bT, 0, none⟩)] wx fun e w' => e = .returned (.int .i64 ((impN ks S name : Int) - (thorN ks (S.take (impN ks S name)) : Int))) ∧ Env w w' ([arOb _ bA ks, rfOb _ bR ks, stOb _ bK bA ks (S1), stOb _ bT bA ks ((S.take (impN ks S name)).take (thorN ks (S.take (impN ks S name))))] ++ [blkOb _ K cs 44])) := hide (fun wx S1 cs K hv => by
        have := env_thorough hv (i := 0) (j := 3) (bK := bT) (bA := bA) rfl rfl (by decide) hgT
        rw [hlT] at this
        exact this)
      have HTP1 : Hid (∀ wx S1, Env w wx [arOb _ bA ks, rfOb _ bR ks, stOb _ bK bA ks (S1), stOb _ bT bA ks (S.take (impN ks S name))] → Calls Try.prog 24 #[.pointer (some ⟨bT, 0, none⟩)] wx fun e w' => e = .returned (.int .i64 (topM (S.take (impN ks S name)))) ∧ wx = w') := hide (fun wx S1 hv => env_top hv (i := 0) (j := 3) (bK := bT) (bA := bA) rfl rfl (by decide) hgT)
      have HTP2 : Hid (∀ wx S1 cs K, Env w wx ([arOb _ bA ks, rfOb _ bR ks, stOb _ bK bA ks (S1), stOb _ bT bA ks ((S.take (impN ks S name)).take (thorN ks (S.take (impN ks S name))))] ++ [blkOb _ K cs 44]) → Calls Try.prog 24 #[.pointer (some ⟨bT, 0, none⟩)] wx fun e w' => e = .returned (.int .i64 (topM ((S.take (impN ks S name)).take (thorN ks (S.take (impN ks S name)))))) ∧ wx = w') := hide (fun wx S1 cs K hv => env_top hv (i := 0) (j := 3) (bK := bT) (bA := bA) rfl rfl (by decide) (hgT.sub (List.take_sublist _ _)))
      have HLT1 : Hid (∀ wx S1 cs K, Env w wx ([arOb _ bA ks, rfOb _ bR ks, stOb _ bK bA ks (S1), stOb _ bT bA ks (S.take (impN ks S name))] ++ [blkOb _ K cs 44]) → Calls Try.prog 22 #[.pointer (some ⟨bT, 0, none⟩)] wx fun e w' => e = .returned (.int .i64 (impN ks S name : Int)) ∧ wx = w') := hide (fun wx S1 cs K hv => by
        have := env_len hv (j := 3) (bK := bT) (bA := bA) rfl
        rw [hlT] at this
        exact this)
      have HLT2 : Hid (∀ wx S1 cs K, Env w wx ([arOb _ bA ks, rfOb _ bR ks, stOb _ bK bA ks (S1), stOb _ bT bA ks ((S.take (impN ks S name)).take (thorN ks (S.take (impN ks S name))))] ++ [blkOb _ K cs 44]) → Calls Try.prog 22 #[.pointer (some ⟨bT, 0, none⟩)] wx fun e w' => e = .returned (.int .i64 (thorN ks (S.take (impN ks S name)) : Int)) ∧ wx = w') := hide (fun wx S1 cs K hv => by
        have := env_len hv (j := 3) (bK := bT) (bA := bA) rfl
        rw [show ((S.take (impN ks S name)).take (thorN ks (S.take (impN ks S name)))).length = thorN ks (S.take (impN ks S name)) by rw [List.length_take]; omega] at this
        exact this)
      have HPT : Hid (∀ wx, Env w wx [arOb _ bA ks, rfOb _ bR ks, stOb _ bK bA ks (S), stOb _ bT bA ks (S)] → Calls Try.prog 21 #[.pointer (some ⟨bK, 0, none⟩), .string name] wx fun e w' => e = .returned (.bool (popToI ks S name).isSome) ∧ Env w w' [arOb _ bA ks, rfOb _ bR ks, stOb _ bK bA ks (popToL ks S name), stOb _ bT bA ks (S)]) := hide (fun wx hv => env_popTo hv (i := 0) (j := 2) (bK := bK) (bA := bA) rfl rfl (by decide) hgS name)
      have HLS : Hid (∀ wx o, Env w wx [arOb _ bA ks, rfOb _ bR ks, stOb _ bK bA ks (popToL ks S name), o] → Calls Try.prog 22 #[.pointer (some ⟨bK, 0, none⟩)] wx fun e w' => e = .returned (.int .i64 ((popToL ks S name).length : Int)) ∧ wx = w') := hide (fun wx o hv => env_len hv (j := 2) (bK := bK) (bA := bA) rfl)
      have hpl : (popToL ks S name).length = j ∧ lastZ ks S name = (j : Int) := ⟨by unfold popToL; rw [hp]; have := (lastI_lt hp).1; simp; omega, by unfold lastZ; rw [hp]⟩
      have epp : (popToI ks S name).isSome = true := by rw [hp]; rfl
      rw [epp] at HPT
      rw [hpl.1] at HLS
      rw [hpl.2] at *
      have hj0 : (0 : Int) ≤ (j : Int) := by omega
      generalize hT1 : S.take (impN ks S name) = T1 at *
      generalize hT2 : T1.take (thorN ks T1) = T2 at *
      generalize thorN ks T1 = m2 at *
      generalize impN ks S name = m1 at *
      generalize popToL ks S name = S1 at *
      have hm1z : (m1 : Int) ≤ (n : Int) := by omega
      have hm2z : (m2 : Int) ≤ (m1 : Int) := by omega
      have hm2n : (0 : Int) ≤ (m2 : Int) := by omega
      have HKN := hide (keyAt_neg ks)
      have hnz : (n : Int) ≤ 32768 := hSz
      have HT1 := hide hT1
      have HT2 := hide hT2
      clear hgS hgT hlT hSl hn hT1 hT2 hlt hiN hi1
      clear hp epp hpl
      rw [htop] at HTP1
      have HK1 := hide hkey
      have ST1 := hide hstop
      have hp1 : (0 : Int) < (m1 : Int) := by omega
      clear htop hkey hstop hm1e
      rcases hc2 with h20 | ⟨m', x', sp', nm', hm2e, hmn', htop', hkey', hstop'⟩
      · have e20 : topM T2 = -1 := by rw [← unhide HT2, h20]; rfl
        rw [e20] at HTP2
        subst h20
        clear e20
        go_wp2_with (first | (have _x := unhide N3; clear _x; go_at_call 22; refine ((unhide HLT2) _ _ _ _ ((unhide N3).wrote (i := 4) rfl _ _ _ _ _ _ _ _ _ _ _ _)).mono ?_; rintro e x ⟨rfl, rfl⟩) | (have _x := unhide N1; clear _x; go_at_call 22; refine ((unhide HLT1) _ _ _ _ ((unhide N1).boxed _ _)).mono ?_; rintro e x ⟨rfl, rfl⟩) | (go_at_call 22; refine ((unhide HLS) _ _ (unhide P1)).mono ?_; rintro e x ⟨rfl, rfl⟩) | (go_at_call 17; refine ((unhide HLEN) _ _ _ (unhide HV)).mono ?_; rintro e w1 ⟨rfl, rfl⟩) | (go_at_call 21; refine ((unhide HPT) _ (unhide HV)).mono ?_; rintro e w5 ⟨rfl, hv⟩; have P1 := hide hv; clear hv) | (go_at_call 23; refine ((unhide HIM) _ _ (unhide P1)).mono ?_; rintro e w6 ⟨rfl, hv⟩; have I1 := hide hv; clear hv) | (have _x := unhide N2; clear _x; go_at_call 24; refine ((unhide HTP2) _ _ _ _ (unhide N2)).mono ?_; rintro e x ⟨rfl, rfl⟩) | (go_at_call 24; refine ((unhide HTP1) _ _ (unhide I1)).mono ?_; rintro e x ⟨rfl, rfl⟩) | (have _x := unhide N2; clear _x; go_at_call 18; refine (env_node_no (unhide N2) (i := 0) (bA := bA) rfl (unhide HKN)).mono ?_; rintro e w8 ⟨rfl, hv⟩; unfold nodeZ; have hbk := hv.block (i := 4) rfl; obtain ⟨⟨z0, z1, z2, z3, z4, z5, z6, z7, z8, z9, z10, z11⟩, zf⟩ := row12 hbk; have N3 := hide hv; clear hv hbk) | (go_at_call 18; refine (env_node (unhide I1) (i := 0) (bA := bA) rfl (unhide HK1)).mono ?_; rintro e w7 ⟨nd, ao, mm, cc, rfl, hq, hv⟩; obtain ⟨nk, nsp, nnm, nav, nda, nsy, npa, nfi, nla, npr, nne, nin, nat⟩ := nd; simp only [nodeV, NodeM.cells]; simp only [keyN, Key.mk.injEq] at hq; obtain ⟨rfl, rfl, rfl⟩ := hq; have N1 := hide hv; clear hv) | (go_at_call 25; refine ((unhide HTH) _ _ _ _ ((unhide N1).boxed _ _)).mono ?_; rintro e w9 ⟨rfl, hv⟩; have N2 := hide hv; clear hv) | (go_at_call 16; refine (awake_any _).mono ?_; rintro e w10 ⟨rfl, hb⟩; have AW := hide hb; clear hb))
        go_ret
        exact ⟨rfl, (((unhide N3).wrote (i := 4) rfl _ _ _ _ _ _ _ _ _ _ _ _).more (unhide AW)).bel⟩
      · rw [htop'] at HTP2
        have HK2 := hide hkey'
        have ST2 := hide hstop'
        have hp2 : (0 : Int) < (m2 : Int) := by omega
        have hp2e : ((m2 : Int) == 0) = false := by rw [beq_eq_false_iff_ne]; omega
        have hsum : (((n : Int) - (m1 : Int) + ((m1 : Int) - (m2 : Int)) + (m2 : Int)) == (n : Int)) = true := by rw [beq_iff_eq]; omega
        clear htop' hkey' hstop' hmn' hm2e
        cases hs2 : (sp' == 0) with
        | false =>
          have hs2b : (sp' != 0) = true := by rw [bne, hs2]; rfl
          go_wp2_with (first | (have _x := unhide N3; clear _x; go_at_call 22; refine ((unhide HLT2) _ _ _ _ ((unhide N3).wrote (i := 4) rfl _ _ _ _ _ _ _ _ _ _ _ _)).mono ?_; rintro e x ⟨rfl, rfl⟩) | (have _x := unhide N1; clear _x; go_at_call 22; refine ((unhide HLT1) _ _ _ _ ((unhide N1).boxed _ _)).mono ?_; rintro e x ⟨rfl, rfl⟩) | (go_at_call 22; refine ((unhide HLS) _ _ (unhide P1)).mono ?_; rintro e x ⟨rfl, rfl⟩) | (go_at_call 17; refine ((unhide HLEN) _ _ _ (unhide HV)).mono ?_; rintro e w1 ⟨rfl, rfl⟩) | (go_at_call 21; refine ((unhide HPT) _ (unhide HV)).mono ?_; rintro e w5 ⟨rfl, hv⟩; have P1 := hide hv; clear hv) | (go_at_call 23; refine ((unhide HIM) _ _ (unhide P1)).mono ?_; rintro e w6 ⟨rfl, hv⟩; have I1 := hide hv; clear hv) | (have _x := unhide N2; clear _x; go_at_call 24; refine ((unhide HTP2) _ _ _ _ (unhide N2)).mono ?_; rintro e x ⟨rfl, rfl⟩) | (go_at_call 24; refine ((unhide HTP1) _ _ (unhide I1)).mono ?_; rintro e x ⟨rfl, rfl⟩) | (have _x := unhide N2; clear _x; go_at_call 18; refine (env_node (unhide N2) (i := 0) (bA := bA) rfl (unhide HK2)).mono ?_; rintro e w8 ⟨nd2, ao2, mm2, cc2, rfl, hq2, hv⟩; obtain ⟨nk2, nsp2, nnm2, nav2, nda2, nsy2, npa2, nfi2, nla2, npr2, nne2, nin2, nat2⟩ := nd2; simp only [nodeV, NodeM.cells]; simp only [keyN, Key.mk.injEq] at hq2; obtain ⟨rfl, rfl, rfl⟩ := hq2; have hbk := hv.block (i := 4) rfl; obtain ⟨⟨z0, z1, z2, z3, z4, z5, z6, z7, z8, z9, z10, z11⟩, zf⟩ := row12 hbk; have N3 := hide hv; clear hv hbk) | (go_at_call 18; refine (env_node (unhide I1) (i := 0) (bA := bA) rfl (unhide HK1)).mono ?_; rintro e w7 ⟨nd, ao, mm, cc, rfl, hq, hv⟩; obtain ⟨nk, nsp, nnm, nav, nda, nsy, npa, nfi, nla, npr, nne, nin, nat⟩ := nd; simp only [nodeV, NodeM.cells]; simp only [keyN, Key.mk.injEq] at hq; obtain ⟨rfl, rfl, rfl⟩ := hq; have N1 := hide hv; clear hv) | (go_at_call 25; refine ((unhide HTH) _ _ _ _ ((unhide N1).boxed _ _)).mono ?_; rintro e w9 ⟨rfl, hv⟩; have N2 := hide hv; clear hv) | (go_at_call 16; refine (awake_any _).mono ?_; rintro e w10 ⟨rfl, hb⟩; have AW := hide hb; clear hb))
          go_ret
          exact ⟨rfl, (((unhide N3).wrote (i := 4) rfl _ _ _ _ _ _ _ _ _ _ _ _).more (unhide AW)).bel⟩
        | true =>
          have hs2b : (sp' != 0) = false := by rw [bne, hs2]; rfl
          obtain ⟨t1, t2⟩ := thor_stop (unhide ST2) hs2
          simp only at t1 t2
          have t1b : (nm'.toList != [116, 114]) = true := by rw [bne, t1]; rfl
          have t2b : (nm'.toList != [112]) = true := by rw [bne, t2]; rfl
          go_wp2_with (first | (have _x := unhide N3; clear _x; go_at_call 22; refine ((unhide HLT2) _ _ _ _ ((unhide N3).wrote (i := 4) rfl _ _ _ _ _ _ _ _ _ _ _ _)).mono ?_; rintro e x ⟨rfl, rfl⟩) | (have _x := unhide N1; clear _x; go_at_call 22; refine ((unhide HLT1) _ _ _ _ ((unhide N1).boxed _ _)).mono ?_; rintro e x ⟨rfl, rfl⟩) | (go_at_call 22; refine ((unhide HLS) _ _ (unhide P1)).mono ?_; rintro e x ⟨rfl, rfl⟩) | (go_at_call 17; refine ((unhide HLEN) _ _ _ (unhide HV)).mono ?_; rintro e w1 ⟨rfl, rfl⟩) | (go_at_call 21; refine ((unhide HPT) _ (unhide HV)).mono ?_; rintro e w5 ⟨rfl, hv⟩; have P1 := hide hv; clear hv) | (go_at_call 23; refine ((unhide HIM) _ _ (unhide P1)).mono ?_; rintro e w6 ⟨rfl, hv⟩; have I1 := hide hv; clear hv) | (have _x := unhide N2; clear _x; go_at_call 24; refine ((unhide HTP2) _ _ _ _ (unhide N2)).mono ?_; rintro e x ⟨rfl, rfl⟩) | (go_at_call 24; refine ((unhide HTP1) _ _ (unhide I1)).mono ?_; rintro e x ⟨rfl, rfl⟩) | (have _x := unhide N2; clear _x; go_at_call 18; refine (env_node (unhide N2) (i := 0) (bA := bA) rfl (unhide HK2)).mono ?_; rintro e w8 ⟨nd2, ao2, mm2, cc2, rfl, hq2, hv⟩; obtain ⟨nk2, nsp2, nnm2, nav2, nda2, nsy2, npa2, nfi2, nla2, npr2, nne2, nin2, nat2⟩ := nd2; simp only [nodeV, NodeM.cells]; simp only [keyN, Key.mk.injEq] at hq2; obtain ⟨rfl, rfl, rfl⟩ := hq2; have hbk := hv.block (i := 4) rfl; obtain ⟨⟨z0, z1, z2, z3, z4, z5, z6, z7, z8, z9, z10, z11⟩, zf⟩ := row12 hbk; have N3 := hide hv; clear hv hbk) | (go_at_call 18; refine (env_node (unhide I1) (i := 0) (bA := bA) rfl (unhide HK1)).mono ?_; rintro e w7 ⟨nd, ao, mm, cc, rfl, hq, hv⟩; obtain ⟨nk, nsp, nnm, nav, nda, nsy, npa, nfi, nla, npr, nne, nin, nat⟩ := nd; simp only [nodeV, NodeM.cells]; simp only [keyN, Key.mk.injEq] at hq; obtain ⟨rfl, rfl, rfl⟩ := hq; have N1 := hide hv; clear hv) | (go_at_call 25; refine ((unhide HTH) _ _ _ _ ((unhide N1).boxed _ _)).mono ?_; rintro e w9 ⟨rfl, hv⟩; have N2 := hide hv; clear hv) | (go_at_call 16; refine (awake_any _).mono ?_; rintro e w10 ⟨rfl, hb⟩; have AW := hide hb; clear hb))
          go_ret
          exact ⟨rfl, (((unhide N3).wrote (i := 4) rfl _ _ _ _ _ _ _ _ _ _ _ _).more (unhide AW)).bel⟩

set_option maxHeartbeats 16000000 in
theorem pops_nb (l : List Cal) (a : Option Addr) (cap : Nat) (name : ByteArray) (w : World) (hin : ElsIn w a l) (hl : l.length ≤ 140737488351232) (ks : List Key) (hks : ksL l = ks) (S : List Int) (hS : elsTo ks (max 1 (ks.length - 1)) = S) (hp : popToI ks S name = none) (m : Nat) (x sp : Int) (nm : ByteArray) (hm1e : impN ks S name = m + 1) (htop : topM (S.take (impN ks S name)) = x) (hkey : keyAt ks x = some ⟨1, sp, nm⟩) (hstop : impM ⟨sp, nm⟩ name = false) (hs1 : (sp == 0) = true) (ha1 : (nm.toList == [112]) = true) :
    Calls Try.prog 5 #[.slice a l.length cap, .string name] w fun e w' => e = .returned (.bool true) ∧ Below w.heap.size w w' := by
  have HAR := hide (arenas_any w a l cap hin hl)
  rw [hks] at HAR
  clear hks
  generalize l.length = ll at *
  clear hin hl
  set_option maxRecDepth 10000 in
  go_enter Try.func5, Try.ntmps5
  go_wp2_with (first
    | (go_at_call 9; refine (unhide HAR).mono ?_; rintro e w1 ⟨bA, bR, rfl, hv⟩; have H1 := hide hv; clear hv)
    | (have _x := unhide H2; clear _x; go_at_call 10; refine (env_snew (unhide H2) (i := 0) (bA := bA) rfl).mono ?_; rintro e w3 ⟨bT, rfl, hv⟩; have H3 := hide hv; clear hv)
    | (go_at_call 10; refine (env_snew (unhide H1) (i := 0) (bA := bA) rfl).mono ?_; rintro e w2 ⟨bK, rfl, hv⟩; have H2 := hide hv; clear hv))
  obtain ⟨N, hN⟩ : ∃ N, ks.length = N := ⟨_, rfl⟩
  have hNm : N ≤ 32768 ∧ 0 < N := by have := (unhide H3).most (i := 0) (bA := bA) rfl; omega
  have hNz : (N : Int) ≤ 32768 := by omega
  have hN1 : (1 : Int) ≤ (N : Int) := by omega
  have HLEN : Hid (∀ wx (o1 o2 : Ob w.heap.size), Env w wx [arOb _ bA ks, rfOb _ bR ks, o1, o2] → Calls Try.prog 17 #[.pointer (some ⟨bA, 0, none⟩)] wx fun e w' => e = .returned (.int .i64 (N : Int)) ∧ wx = w') := hide (fun wx o1 o2 hv => by
    have := env_alen hv (i := 0) (bA := bA) (ks := ks) rfl
    rw [hN] at this
    exact this)
  have HN := hide hN
  rw [hN] at hS
  have HSS := hide hS
  clear hN hS
  go_loopg [11, 12, 13, 14, 15] (N - 1) (fun g s11 s12 s13 _ _ wr => ∃ i : Nat, s13 = .int .i64 (i : Int) ∧ s11 = .int .i64 (lastZ ks (elsTo ks i) name) ∧ s12 = .int .i64 ((elsTo ks i).length : Int) ∧ 1 ≤ i ∧ i ≤ max 1 (N - 1) ∧ g = N - i ∧ Env w wr [arOb _ bA ks, rfOb _ bR ks, stOb _ bK bA ks (elsTo ks i), stOb _ bT bA ks (elsTo ks i)])
  case atStart => exact ⟨1, rfl, rfl, rfl, Nat.le_refl _, by omega, rfl, unhide H3⟩
  case round =>
    obtain ⟨i, rfl, rfl, rfl, hi1, hiN, hg, hv⟩ := hrel
    have HV := hide hv
    clear hv
    have hi1z : (1 : Int) ≤ (i : Int) := by omega
    have hiNz : (i : Int) ≤ 32769 := by omega
    have hSl : (elsTo ks i).length ≤ 32768 := by have := (good_els ks i).len; rw [unhide HN] at this; omega
    have hSz : ((elsTo ks i).length : Int) ≤ 32768 := by omega
    by_cases hlt : i < N - 1
    · have hltz : (i : Int) < (N : Int) - 1 := by omega
      obtain ⟨q, hq⟩ : ∃ q, ks[i]? = some q := ⟨_, List.getElem?_eq_getElem (by rw [unhide HN]; omega)⟩
      have hka : keyAt ks (i : Int) = some q := by unfold keyAt; rw [if_pos (by omega), Int.toNat_natCast]; exact hq
      have HQ := hide hka
      obtain ⟨qk, qs, qn⟩ := q
      by_cases hk1 : qk = 1
      · subst hk1
        have hel : elOf ks (i : Int) = some ⟨qs, qn⟩ := by rw [elOf_key hka]; rfl
        have hsome : (elOf ks (i : Int)).isSome = true := by rw [hel]; rfl
        have hcal : calOf ks (i : Int) = ⟨qs, qn⟩ := by unfold calOf; rw [hel]; rfl
        have hnamed : namedM (calOf ks (i : Int)) name = (qs == 0 && (qn.toList == name.toList)) := by rw [hcal, namedM_eq]
        have hls := els_last hi1 hsome
        have HLE : Hid (((elsTo ks (i + 1)).length : Int) = ((elsTo ks i).length : Int) + 1) := hide (by rw [hls]; simp)
        have HPU1 : Hid (∀ wx (cs : Array Value) (K : Nat), Env w wx ([arOb _ bA ks, rfOb _ bR ks, stOb _ bK bA ks (elsTo ks i), stOb _ bT bA ks (elsTo ks i)] ++ [blkOb _ K cs 44]) → Calls Try.prog 19 #[.pointer (some ⟨bK, 0, none⟩), .int .i64 (i : Int)] wx fun e w' => e = .returned (.int .i64 0) ∧ Env w w' [arOb _ bA ks, rfOb _ bR ks, stOb _ bK bA ks (elsTo ks (i + 1)), stOb _ bT bA ks (elsTo ks i), blkOb _ K cs 44]) := hide (fun wx cs K hv => by
          have := env_push hv (i := 0) (j := 2) (bK := bK) (bA := bA) rfl rfl (by decide) (good_els ks i) (i : Int)
          rw [(els_yes hi1 hsome).1, (els_yes hi1 hsome).2] at this
          exact this)
        have HPU2 : Hid (∀ wx (cs : Array Value) (K : Nat), Env w wx [arOb _ bA ks, rfOb _ bR ks, stOb _ bK bA ks (elsTo ks (i + 1)), stOb _ bT bA ks (elsTo ks i), blkOb _ K cs 44] → Calls Try.prog 19 #[.pointer (some ⟨bT, 0, none⟩), .int .i64 (i : Int)] wx fun e w' => e = .returned (.int .i64 0) ∧ Env w w' [arOb _ bA ks, rfOb _ bR ks, stOb _ bK bA ks (elsTo ks (i + 1)), stOb _ bT bA ks (elsTo ks (i + 1)), blkOb _ K cs 44]) := hide (fun wx cs K hv => by
          have := env_push hv (i := 0) (j := 3) (bK := bT) (bA := bA) rfl rfl (by decide) (good_els ks i) (i : Int)
          rw [(els_yes hi1 hsome).1, (els_yes hi1 hsome).2] at this
          exact this)
        clear hq hka hel hsome hcal
        cases hs0 : (qs == 0) with
        | false =>
          rw [hs0] at hnamed
          have HLZ : Hid (lastZ ks (elsTo ks (i + 1)) name = lastZ ks (elsTo ks i) name) := hide (by rw [hls]; exact lastZ_no hnamed)
          clear hnamed hls
          go_wp2_with (first | (go_at_call 17; refine ((unhide HLEN) _ _ _ (unhide HV)).mono ?_; rintro e w1 ⟨rfl, rfl⟩) | (go_at_call 18; refine (env_node (unhide HV) (i := 0) (bA := bA) rfl (unhide HQ)).mono ?_; rintro e w3 ⟨n, ao, mm, cc, rfl, hq, hv⟩; obtain ⟨nk, nsp, nnm, nav, nda, nsy, npa, nfi, nla, npr, nne, nin, nat⟩ := n; simp only [nodeV, NodeM.cells]; simp only [keyN, Key.mk.injEq] at hq; obtain ⟨rfl, rfl, rfl⟩ := hq; have E3 := hide hv; clear hv) | (have _x := unhide E5; clear _x; go_at_call 19; refine ((unhide HPU2) _ _ _ (unhide E5)).mono ?_; rintro e w6 ⟨rfl, hv⟩; have hb := hv.block (i := 4) rfl; have y1 : w6.cell? ⟨w3.heap.size, 1, none⟩ = some (.int .i64 nsp) := (by simp [World.cell?, hb]); have y2 : w6.cell? ⟨w3.heap.size, 2, none⟩ = some (.string nnm) := (by simp [World.cell?, hb]); have E6 := hide (hv.take 4); clear hv hb) | (go_at_call 19; refine ((unhide HPU1) _ _ _ ((unhide E3).boxed _ _)).mono ?_; rintro e w5 ⟨rfl, hv⟩; have E5 := hide hv; clear hv))
          go_roundg (gk - 1)
          case measure => omega
          case rel => exact ⟨i + 1, by go_num, by rw [unhide HLZ], by rw [unhide HLE], by omega, by omega, by omega, unhide E6⟩
        | true =>
          rw [hs0] at hnamed
          cases hnm : (qn.toList == name.toList) with
          | true =>
            rw [hnm] at hnamed
            have HLZ : Hid (lastZ ks (elsTo ks (i + 1)) name = ((elsTo ks i).length : Int)) := hide (by rw [hls]; exact lastZ_yes hnamed)
            clear hnamed hls
            go_wp2_with (first | (go_at_call 17; refine ((unhide HLEN) _ _ _ (unhide HV)).mono ?_; rintro e w1 ⟨rfl, rfl⟩) | (go_at_call 18; refine (env_node (unhide HV) (i := 0) (bA := bA) rfl (unhide HQ)).mono ?_; rintro e w3 ⟨n, ao, mm, cc, rfl, hq, hv⟩; obtain ⟨nk, nsp, nnm, nav, nda, nsy, npa, nfi, nla, npr, nne, nin, nat⟩ := n; simp only [nodeV, NodeM.cells]; simp only [keyN, Key.mk.injEq] at hq; obtain ⟨rfl, rfl, rfl⟩ := hq; have E3 := hide hv; clear hv) | (have _x := unhide E5; clear _x; go_at_call 19; refine ((unhide HPU2) _ _ _ (unhide E5)).mono ?_; rintro e w6 ⟨rfl, hv⟩; have hb := hv.block (i := 4) rfl; have y1 : w6.cell? ⟨w3.heap.size, 1, none⟩ = some (.int .i64 nsp) := (by simp [World.cell?, hb]); have y2 : w6.cell? ⟨w3.heap.size, 2, none⟩ = some (.string nnm) := (by simp [World.cell?, hb]); have E6 := hide (hv.take 4); clear hv hb) | (go_at_call 19; refine ((unhide HPU1) _ _ _ ((unhide E3).boxed _ _)).mono ?_; rintro e w5 ⟨rfl, hv⟩; have E5 := hide hv; clear hv))
            go_roundg (gk - 1)
            case measure => omega
            case rel => exact ⟨i + 1, by go_num, by rw [unhide HLZ], by rw [unhide HLE], by omega, by omega, by omega, unhide E6⟩
          | false =>
            rw [hnm] at hnamed
            have HLZ : Hid (lastZ ks (elsTo ks (i + 1)) name = lastZ ks (elsTo ks i) name) := hide (by rw [hls]; exact lastZ_no hnamed)
            clear hnamed hls
            go_wp2_with (first | (go_at_call 17; refine ((unhide HLEN) _ _ _ (unhide HV)).mono ?_; rintro e w1 ⟨rfl, rfl⟩) | (go_at_call 18; refine (env_node (unhide HV) (i := 0) (bA := bA) rfl (unhide HQ)).mono ?_; rintro e w3 ⟨n, ao, mm, cc, rfl, hq, hv⟩; obtain ⟨nk, nsp, nnm, nav, nda, nsy, npa, nfi, nla, npr, nne, nin, nat⟩ := n; simp only [nodeV, NodeM.cells]; simp only [keyN, Key.mk.injEq] at hq; obtain ⟨rfl, rfl, rfl⟩ := hq; have E3 := hide hv; clear hv) | (have _x := unhide E5; clear _x; go_at_call 19; refine ((unhide HPU2) _ _ _ (unhide E5)).mono ?_; rintro e w6 ⟨rfl, hv⟩; have hb := hv.block (i := 4) rfl; have y1 : w6.cell? ⟨w3.heap.size, 1, none⟩ = some (.int .i64 nsp) := (by simp [World.cell?, hb]); have y2 : w6.cell? ⟨w3.heap.size, 2, none⟩ = some (.string nnm) := (by simp [World.cell?, hb]); have E6 := hide (hv.take 4); clear hv hb) | (go_at_call 19; refine ((unhide HPU1) _ _ _ ((unhide E3).boxed _ _)).mono ?_; rintro e w5 ⟨rfl, hv⟩; have E5 := hide hv; clear hv))
            go_roundg (gk - 1)
            case measure => omega
            case rel => exact ⟨i + 1, by go_num, by rw [unhide HLZ], by rw [unhide HLE], by omega, by omega, by omega, unhide E6⟩
      · have hel : elOf ks (i : Int) = none := by rw [elOf_key hka, if_neg hk1]
        have hk1' : (qk == 1) = false := by simpa using hk1
        have HEL := hide (els_no hel)
        clear hq hka hel hk1
        go_wp2_with (first | (go_at_call 17; refine ((unhide HLEN) _ _ _ (unhide HV)).mono ?_; rintro e w1 ⟨rfl, rfl⟩) | (go_at_call 18; refine (env_node (unhide HV) (i := 0) (bA := bA) rfl (unhide HQ)).mono ?_; rintro e w3 ⟨n, ao, mm, cc, rfl, hq, hv⟩; obtain ⟨nk, nsp, nnm, nav, nda, nsy, npa, nfi, nla, npr, nne, nin, nat⟩ := n; simp only [nodeV, NodeM.cells]; simp only [keyN, Key.mk.injEq] at hq; obtain ⟨rfl, rfl, rfl⟩ := hq; have E3 := hide hv; clear hv))
        go_roundg (gk - 1)
        case measure => omega
        case rel => exact ⟨i + 1, by go_num, by rw [unhide HEL], by rw [unhide HEL], by omega, by omega, by omega, by rw [unhide HEL]; exact (unhide E3).more (below_new _ _)⟩
    · have hltz : ¬ (i : Int) < (N : Int) - 1 := by omega
      have hgS := good_els ks i
      have hiS : elsTo ks i = S := by rw [← unhide HSS]; congr 1; omega
      clear HSS
      subst hiS
      generalize elsTo ks i = S at *
      generalize hn : S.length = n at *
      have hm1 : impN ks S name ≤ n := by rw [← hn]; exact leaveN_le _ _ _
      have hgT := hgS.sub (List.take_sublist (impN ks S name) S)
      have hlT : (S.take (impN ks S name)).length = impN ks S name := by rw [List.length_take]; omega
      have hm2 : thorN ks (S.take (impN ks S name)) ≤ impN ks S name := by
        have := leaveN_le (fun id => thorM (calOf ks id)) (S.take (impN ks S name)) (S.take (impN ks S name)).length
        rw [hlT] at this
        unfold thorN
        rw [hlT]
        exact this
      have hc2 := thor_cases hgT
      have HIM : Hid (∀ wx S1, Env w wx [arOb _ bA ks, rfOb _ bR ks, stOb _ bK bA ks (S1), stOb _ bT bA ks (S)] → Calls Try.prog 23 #[.pointer (some ⟨bT, 0, none⟩), .string name] wx fun e w' => e = .returned (.int .i64 ((n : Int) - (impN ks S name : Int))) ∧ Env w w' [arOb _ bA ks, rfOb _ bR ks, stOb _ bK bA ks (S1), stOb _ bT bA ks (S.take (impN ks S name))]) := hide (fun wx S1 hv => by
        have := env_implied hv (i := 0) (j := 3) (bK := bT) (bA := bA) rfl rfl (by decide) hgS name
        rw [hn] at this
        exact this)
      have HTH : Hid (∀ wx S1 cs K, Env w wx ([arOb _ bA ks, rfOb _ bR ks, stOb _ bK bA ks (S1), stOb _ bT bA ks (S.take (impN ks S name))] ++ [blkOb _ K cs 44]) → Calls Try.prog 25 #[.pointer (some ⟨bT, 0, none⟩)] wx fun e w' => e = .returned (.int .i64 ((impN ks S name : Int) - (thorN ks (S.take (impN ks S name)) : Int))) ∧ Env w w' ([arOb _ bA ks, rfOb _ bR ks, stOb _ bK bA ks (S1), stOb _ bT bA ks ((S.take (impN ks S name)).take (thorN ks (S.take (impN ks S name))))] ++ [blkOb _ K cs 44])) := hide (fun wx S1 cs K hv => by
        have := env_thorough hv (i := 0) (j := 3) (bK := bT) (bA := bA) rfl rfl (by decide) hgT
        rw [hlT] at this
        exact this)
      have HTP1 : Hid (∀ wx S1, Env w wx [arOb _ bA ks, rfOb _ bR ks, stOb _ bK bA ks (S1), stOb _ bT bA ks (S.take (impN ks S name))] → Calls Try.prog 24 #[.pointer (some ⟨bT, 0, none⟩)] wx fun e w' => e = .returned (.int .i64 (topM (S.take (impN ks S name)))) ∧ wx = w') := hide (fun wx S1 hv => env_top hv (i := 0) (j := 3) (bK := bT) (bA := bA) rfl rfl (by decide) hgT)
      have HTP2 : Hid (∀ wx S1 cs K, Env w wx ([arOb _ bA ks, rfOb _ bR ks, stOb _ bK bA ks (S1), stOb _ bT bA ks ((S.take (impN ks S name)).take (thorN ks (S.take (impN ks S name))))] ++ [blkOb _ K cs 44]) → Calls Try.prog 24 #[.pointer (some ⟨bT, 0, none⟩)] wx fun e w' => e = .returned (.int .i64 (topM ((S.take (impN ks S name)).take (thorN ks (S.take (impN ks S name)))))) ∧ wx = w') := hide (fun wx S1 cs K hv => env_top hv (i := 0) (j := 3) (bK := bT) (bA := bA) rfl rfl (by decide) (hgT.sub (List.take_sublist _ _)))
      have HLT1 : Hid (∀ wx S1 cs K, Env w wx ([arOb _ bA ks, rfOb _ bR ks, stOb _ bK bA ks (S1), stOb _ bT bA ks (S.take (impN ks S name))] ++ [blkOb _ K cs 44]) → Calls Try.prog 22 #[.pointer (some ⟨bT, 0, none⟩)] wx fun e w' => e = .returned (.int .i64 (impN ks S name : Int)) ∧ wx = w') := hide (fun wx S1 cs K hv => by
        have := env_len hv (j := 3) (bK := bT) (bA := bA) rfl
        rw [hlT] at this
        exact this)
      have HLT2 : Hid (∀ wx S1 cs K, Env w wx ([arOb _ bA ks, rfOb _ bR ks, stOb _ bK bA ks (S1), stOb _ bT bA ks ((S.take (impN ks S name)).take (thorN ks (S.take (impN ks S name))))] ++ [blkOb _ K cs 44]) → Calls Try.prog 22 #[.pointer (some ⟨bT, 0, none⟩)] wx fun e w' => e = .returned (.int .i64 (thorN ks (S.take (impN ks S name)) : Int)) ∧ wx = w') := hide (fun wx S1 cs K hv => by
        have := env_len hv (j := 3) (bK := bT) (bA := bA) rfl
        rw [show ((S.take (impN ks S name)).take (thorN ks (S.take (impN ks S name)))).length = thorN ks (S.take (impN ks S name)) by rw [List.length_take]; omega] at this
        exact this)
      have HPT : Hid (∀ wx, Env w wx [arOb _ bA ks, rfOb _ bR ks, stOb _ bK bA ks (S), stOb _ bT bA ks (S)] → Calls Try.prog 21 #[.pointer (some ⟨bK, 0, none⟩), .string name] wx fun e w' => e = .returned (.bool (popToI ks S name).isSome) ∧ Env w w' [arOb _ bA ks, rfOb _ bR ks, stOb _ bK bA ks (popToL ks S name), stOb _ bT bA ks (S)]) := hide (fun wx hv => env_popTo hv (i := 0) (j := 2) (bK := bK) (bA := bA) rfl rfl (by decide) hgS name)
      have HLS : Hid (∀ wx o, Env w wx [arOb _ bA ks, rfOb _ bR ks, stOb _ bK bA ks (popToL ks S name), o] → Calls Try.prog 22 #[.pointer (some ⟨bK, 0, none⟩)] wx fun e w' => e = .returned (.int .i64 ((popToL ks S name).length : Int)) ∧ wx = w') := hide (fun wx o hv => env_len hv (j := 2) (bK := bK) (bA := bA) rfl)
      have hpl : (popToL ks S name).length = n ∧ lastZ ks S name = -1 := ⟨by unfold popToL; rw [hp]; exact hn, by unfold lastZ; rw [hp]⟩
      have epp : (popToI ks S name).isSome = false := by rw [hp]; rfl
      rw [epp] at HPT
      rw [hpl.1] at HLS
      rw [hpl.2] at *
      generalize hT1 : S.take (impN ks S name) = T1 at *
      generalize hT2 : T1.take (thorN ks T1) = T2 at *
      generalize thorN ks T1 = m2 at *
      generalize impN ks S name = m1 at *
      generalize popToL ks S name = S1 at *
      have hm1z : (m1 : Int) ≤ (n : Int) := by omega
      have hm2z : (m2 : Int) ≤ (m1 : Int) := by omega
      have hm2n : (0 : Int) ≤ (m2 : Int) := by omega
      have HKN := hide (keyAt_neg ks)
      have hnz : (n : Int) ≤ 32768 := hSz
      have HT1 := hide hT1
      have HT2 := hide hT2
      clear hgS hgT hlT hSl hn hT1 hT2 hlt hiN hi1
      clear hp epp hpl
      rw [htop] at HTP1
      have HK1 := hide hkey
      have ST1 := hide hstop
      have hp1 : (0 : Int) < (m1 : Int) := by omega
      have ha3 : (nm.toList == name.toList) = true := imp_stop (unhide ST1) hs1 (.inl ha1)
      have ha3b : (nm.toList != name.toList) = false := by rw [bne, ha3]; rfl
      clear htop hkey hstop hm1e
      rcases hc2 with h20 | ⟨m', x', sp', nm', hm2e, hmn', htop', hkey', hstop'⟩
      · have e20 : topM T2 = -1 := by rw [← unhide HT2, h20]; rfl
        rw [e20] at HTP2
        subst h20
        clear e20
        go_wp2_with (first | (have _x := unhide N3; clear _x; go_at_call 22; refine ((unhide HLT2) _ _ _ _ ((unhide N3).wrote (i := 4) rfl _ _ _ _ _ _ _ _ _ _ _ _)).mono ?_; rintro e x ⟨rfl, rfl⟩) | (have _x := unhide N1; clear _x; go_at_call 22; refine ((unhide HLT1) _ _ _ _ ((unhide N1).boxed _ _)).mono ?_; rintro e x ⟨rfl, rfl⟩) | (go_at_call 22; refine ((unhide HLS) _ _ (unhide P1)).mono ?_; rintro e x ⟨rfl, rfl⟩) | (go_at_call 17; refine ((unhide HLEN) _ _ _ (unhide HV)).mono ?_; rintro e w1 ⟨rfl, rfl⟩) | (go_at_call 21; refine ((unhide HPT) _ (unhide HV)).mono ?_; rintro e w5 ⟨rfl, hv⟩; have P1 := hide hv; clear hv) | (go_at_call 23; refine ((unhide HIM) _ _ (unhide P1)).mono ?_; rintro e w6 ⟨rfl, hv⟩; have I1 := hide hv; clear hv) | (have _x := unhide N2; clear _x; go_at_call 24; refine ((unhide HTP2) _ _ _ _ (unhide N2)).mono ?_; rintro e x ⟨rfl, rfl⟩) | (go_at_call 24; refine ((unhide HTP1) _ _ (unhide I1)).mono ?_; rintro e x ⟨rfl, rfl⟩) | (have _x := unhide N2; clear _x; go_at_call 18; refine (env_node_no (unhide N2) (i := 0) (bA := bA) rfl (unhide HKN)).mono ?_; rintro e w8 ⟨rfl, hv⟩; unfold nodeZ; have hbk := hv.block (i := 4) rfl; obtain ⟨⟨z0, z1, z2, z3, z4, z5, z6, z7, z8, z9, z10, z11⟩, zf⟩ := row12 hbk; have N3 := hide hv; clear hv hbk) | (go_at_call 18; refine (env_node (unhide I1) (i := 0) (bA := bA) rfl (unhide HK1)).mono ?_; rintro e w7 ⟨nd, ao, mm, cc, rfl, hq, hv⟩; obtain ⟨nk, nsp, nnm, nav, nda, nsy, npa, nfi, nla, npr, nne, nin, nat⟩ := nd; simp only [nodeV, NodeM.cells]; simp only [keyN, Key.mk.injEq] at hq; obtain ⟨rfl, rfl, rfl⟩ := hq; have N1 := hide hv; clear hv) | (go_at_call 25; refine ((unhide HTH) _ _ _ _ ((unhide N1).boxed _ _)).mono ?_; rintro e w9 ⟨rfl, hv⟩; have N2 := hide hv; clear hv) | (go_at_call 16; refine (awake_any _).mono ?_; rintro e w10 ⟨rfl, hb⟩; have AW := hide hb; clear hb))
        go_ret
        exact ⟨rfl, (((unhide N3).wrote (i := 4) rfl _ _ _ _ _ _ _ _ _ _ _ _).more (unhide AW)).bel⟩
      · rw [htop'] at HTP2
        have HK2 := hide hkey'
        have ST2 := hide hstop'
        have hp2 : (0 : Int) < (m2 : Int) := by omega
        have hp2e : ((m2 : Int) == 0) = false := by rw [beq_eq_false_iff_ne]; omega
        have hsum : (((n : Int) - (m1 : Int) + ((m1 : Int) - (m2 : Int)) + (m2 : Int)) == (n : Int)) = true := by rw [beq_iff_eq]; omega
        clear htop' hkey' hstop' hmn' hm2e
        cases hs2 : (sp' == 0) with
        | false =>
          have hs2b : (sp' != 0) = true := by rw [bne, hs2]; rfl
          go_wp2_with (first | (have _x := unhide N3; clear _x; go_at_call 22; refine ((unhide HLT2) _ _ _ _ ((unhide N3).wrote (i := 4) rfl _ _ _ _ _ _ _ _ _ _ _ _)).mono ?_; rintro e x ⟨rfl, rfl⟩) | (have _x := unhide N1; clear _x; go_at_call 22; refine ((unhide HLT1) _ _ _ _ ((unhide N1).boxed _ _)).mono ?_; rintro e x ⟨rfl, rfl⟩) | (go_at_call 22; refine ((unhide HLS) _ _ (unhide P1)).mono ?_; rintro e x ⟨rfl, rfl⟩) | (go_at_call 17; refine ((unhide HLEN) _ _ _ (unhide HV)).mono ?_; rintro e w1 ⟨rfl, rfl⟩) | (go_at_call 21; refine ((unhide HPT) _ (unhide HV)).mono ?_; rintro e w5 ⟨rfl, hv⟩; have P1 := hide hv; clear hv) | (go_at_call 23; refine ((unhide HIM) _ _ (unhide P1)).mono ?_; rintro e w6 ⟨rfl, hv⟩; have I1 := hide hv; clear hv) | (have _x := unhide N2; clear _x; go_at_call 24; refine ((unhide HTP2) _ _ _ _ (unhide N2)).mono ?_; rintro e x ⟨rfl, rfl⟩) | (go_at_call 24; refine ((unhide HTP1) _ _ (unhide I1)).mono ?_; rintro e x ⟨rfl, rfl⟩) | (have _x := unhide N2; clear _x; go_at_call 18; refine (env_node (unhide N2) (i := 0) (bA := bA) rfl (unhide HK2)).mono ?_; rintro e w8 ⟨nd2, ao2, mm2, cc2, rfl, hq2, hv⟩; obtain ⟨nk2, nsp2, nnm2, nav2, nda2, nsy2, npa2, nfi2, nla2, npr2, nne2, nin2, nat2⟩ := nd2; simp only [nodeV, NodeM.cells]; simp only [keyN, Key.mk.injEq] at hq2; obtain ⟨rfl, rfl, rfl⟩ := hq2; have hbk := hv.block (i := 4) rfl; obtain ⟨⟨z0, z1, z2, z3, z4, z5, z6, z7, z8, z9, z10, z11⟩, zf⟩ := row12 hbk; have N3 := hide hv; clear hv hbk) | (go_at_call 18; refine (env_node (unhide I1) (i := 0) (bA := bA) rfl (unhide HK1)).mono ?_; rintro e w7 ⟨nd, ao, mm, cc, rfl, hq, hv⟩; obtain ⟨nk, nsp, nnm, nav, nda, nsy, npa, nfi, nla, npr, nne, nin, nat⟩ := nd; simp only [nodeV, NodeM.cells]; simp only [keyN, Key.mk.injEq] at hq; obtain ⟨rfl, rfl, rfl⟩ := hq; have N1 := hide hv; clear hv) | (go_at_call 25; refine ((unhide HTH) _ _ _ _ ((unhide N1).boxed _ _)).mono ?_; rintro e w9 ⟨rfl, hv⟩; have N2 := hide hv; clear hv) | (go_at_call 16; refine (awake_any _).mono ?_; rintro e w10 ⟨rfl, hb⟩; have AW := hide hb; clear hb))
          go_ret
          exact ⟨rfl, (((unhide N3).wrote (i := 4) rfl _ _ _ _ _ _ _ _ _ _ _ _).more (unhide AW)).bel⟩
        | true =>
          have hs2b : (sp' != 0) = false := by rw [bne, hs2]; rfl
          obtain ⟨t1, t2⟩ := thor_stop (unhide ST2) hs2
          simp only at t1 t2
          have t1b : (nm'.toList != [116, 114]) = true := by rw [bne, t1]; rfl
          have t2b : (nm'.toList != [112]) = true := by rw [bne, t2]; rfl
          go_wp2_with (first | (have _x := unhide N3; clear _x; go_at_call 22; refine ((unhide HLT2) _ _ _ _ ((unhide N3).wrote (i := 4) rfl _ _ _ _ _ _ _ _ _ _ _ _)).mono ?_; rintro e x ⟨rfl, rfl⟩) | (have _x := unhide N1; clear _x; go_at_call 22; refine ((unhide HLT1) _ _ _ _ ((unhide N1).boxed _ _)).mono ?_; rintro e x ⟨rfl, rfl⟩) | (go_at_call 22; refine ((unhide HLS) _ _ (unhide P1)).mono ?_; rintro e x ⟨rfl, rfl⟩) | (go_at_call 17; refine ((unhide HLEN) _ _ _ (unhide HV)).mono ?_; rintro e w1 ⟨rfl, rfl⟩) | (go_at_call 21; refine ((unhide HPT) _ (unhide HV)).mono ?_; rintro e w5 ⟨rfl, hv⟩; have P1 := hide hv; clear hv) | (go_at_call 23; refine ((unhide HIM) _ _ (unhide P1)).mono ?_; rintro e w6 ⟨rfl, hv⟩; have I1 := hide hv; clear hv) | (have _x := unhide N2; clear _x; go_at_call 24; refine ((unhide HTP2) _ _ _ _ (unhide N2)).mono ?_; rintro e x ⟨rfl, rfl⟩) | (go_at_call 24; refine ((unhide HTP1) _ _ (unhide I1)).mono ?_; rintro e x ⟨rfl, rfl⟩) | (have _x := unhide N2; clear _x; go_at_call 18; refine (env_node (unhide N2) (i := 0) (bA := bA) rfl (unhide HK2)).mono ?_; rintro e w8 ⟨nd2, ao2, mm2, cc2, rfl, hq2, hv⟩; obtain ⟨nk2, nsp2, nnm2, nav2, nda2, nsy2, npa2, nfi2, nla2, npr2, nne2, nin2, nat2⟩ := nd2; simp only [nodeV, NodeM.cells]; simp only [keyN, Key.mk.injEq] at hq2; obtain ⟨rfl, rfl, rfl⟩ := hq2; have hbk := hv.block (i := 4) rfl; obtain ⟨⟨z0, z1, z2, z3, z4, z5, z6, z7, z8, z9, z10, z11⟩, zf⟩ := row12 hbk; have N3 := hide hv; clear hv hbk) | (go_at_call 18; refine (env_node (unhide I1) (i := 0) (bA := bA) rfl (unhide HK1)).mono ?_; rintro e w7 ⟨nd, ao, mm, cc, rfl, hq, hv⟩; obtain ⟨nk, nsp, nnm, nav, nda, nsy, npa, nfi, nla, npr, nne, nin, nat⟩ := nd; simp only [nodeV, NodeM.cells]; simp only [keyN, Key.mk.injEq] at hq; obtain ⟨rfl, rfl, rfl⟩ := hq; have N1 := hide hv; clear hv) | (go_at_call 25; refine ((unhide HTH) _ _ _ _ ((unhide N1).boxed _ _)).mono ?_; rintro e w9 ⟨rfl, hv⟩; have N2 := hide hv; clear hv) | (go_at_call 16; refine (awake_any _).mono ?_; rintro e w10 ⟨rfl, hb⟩; have AW := hide hb; clear hb))
          go_ret
          exact ⟨rfl, (((unhide N3).wrote (i := 4) rfl _ _ _ _ _ _ _ _ _ _ _ _).more (unhide AW)).bel⟩
end Go.Proofs.Ytmllhebmaldgfaa
