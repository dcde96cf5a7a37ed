/-
  mayLink at nodes that are there; Link.
-/
import Derived.Test.YtlbkoafeedlfaaaCMay
namespace Go.Proofs.Ytlbkoafeedlfaaa
open Go.RowKit

set_option maxHeartbeats 4000000 in
theorem mayLink_in {w : World} {base bA bS g cap : Nat} {ns : List NodeM} (h : Ar w base bA bS g cap ns) (p : Nat) (np : NodeM) (hp : ns[p]? = some np) (c : Nat) (nc : NodeM) (hc : ns[c]? = some nc) (b : Int) (hb : okK ns b)
    (path : List Nat) (hpath : PathOf (upF ns) p path) :
    Calls Try.prog 91 #[.pointer (some ⟨bA, 0, none⟩), .int .i64 p, .int .i64 c, .int .i64 b] w fun e w' => e = .returned (.int .i64 (mayM ns p np c nc b path)) ∧ Below w.heap.size w w' := by
  have lp : p < ns.length := (List.getElem?_eq_some_iff.1 hp).1
  have lc : c < ns.length := (List.getElem?_eq_some_iff.1 hc).1
  have hm := h.most
  have HM := hide (made_yes h)
  have HH := hide (fun k => has_any h k)
  have q1 : hasM ns p = true := by simp [hasM, lp]
  have q2 : hasM ns c = true := by simp [hasM, lc]
  obtain ⟨ao, co, hav⟩ := av_form h hc
  have h1 := h.alloc (.cells (copyCells nc ao co) 37)
  have HP := hide (isParent_any (w := w.alloc (.cells (copyCells nc ao co) 37)) np.kind)
  have HC := hide (covers_any h1 c nc hc p lp path hpath)
  have HB := hide ((Below.refl _ w).alloc (Nat.le_refl _) (.cells (copyCells nc ao co) 37))
  obtain ⟨c0, c1, c2, c3, c4, c5, c6, c7, c8, c9, c10, c11⟩ := h.cells12 hc
  rw [hav] at c3
  have d0 := (h.cells12 hp).1
  have hA := h.cA
  have hS := h.cS
  have ltg := h.lt.2.2
  have ltS := h.lt.2.1
  have ltA := h.lt.1
  unfold copyCells at HP HC HB
  have HAR := hide h
  clear h h1 hav hp hc hpath
  rcases hb with rfl | ⟨ib, rfl, lb⟩
  · have fb : ((-1 : Int) != -1) = false := rfl
    cases k1 : parentM np.kind with
    | false =>
      have e : mayM ns p np c nc (-1) path = 10 := by simp [mayM, k1]
      rw [e]
      rw [k1] at HP
      clear e k1 HC
      go_enter Try.func91, Try.ntmps91
      go_wp2_with (first
        | (go_at_call 53; refine (unhide HM).mono ?_; rintro e w' ⟨rfl, rfl⟩)
        | (go_at_call 54; refine (unhide HH _).mono ?_; rintro e w' ⟨rfl, rfl⟩)
        | (go_at_call 129; refine (unhide HP).mono ?_; rintro e w' ⟨rfl, rfl⟩)
        | (go_at_call 130; refine (unhide HC).mono ?_; rintro e w2 ⟨rfl, hb2⟩; have HB2 := hide hb2;  clear hb2))
      go_ret
      exact ⟨rfl, unhide HB⟩
    | true =>
      rw [k1] at HP
      by_cases k2 : nc.kind = 0
      · have e : mayM ns p np c nc (-1) path = 10 := by simp [mayM, k2]
        rw [e]
        have f2 : (nc.kind == 0) = true := by simp [k2]
        clear e k1 k2 HC
        go_enter Try.func91, Try.ntmps91
        go_wp2_with (first
          | (go_at_call 53; refine (unhide HM).mono ?_; rintro e w' ⟨rfl, rfl⟩)
          | (go_at_call 54; refine (unhide HH _).mono ?_; rintro e w' ⟨rfl, rfl⟩)
          | (go_at_call 129; refine (unhide HP).mono ?_; rintro e w' ⟨rfl, rfl⟩)
          | (go_at_call 130; refine (unhide HC).mono ?_; rintro e w2 ⟨rfl, hb2⟩; have HB2 := hide hb2;  clear hb2))
        go_ret
        exact ⟨rfl, unhide HB⟩
      · have f2 : (nc.kind == 0) = false := by simp [k2]
        by_cases k3 : nc.kind = 5
        · have e : mayM ns p np c nc (-1) path = 10 := by simp [mayM, k3]
          rw [e]
          have f3 : (nc.kind == 5) = true := by simp [k3]
          clear e k1 k2 k3 HC
          go_enter Try.func91, Try.ntmps91
          go_wp2_with (first
            | (go_at_call 53; refine (unhide HM).mono ?_; rintro e w' ⟨rfl, rfl⟩)
            | (go_at_call 54; refine (unhide HH _).mono ?_; rintro e w' ⟨rfl, rfl⟩)
            | (go_at_call 129; refine (unhide HP).mono ?_; rintro e w' ⟨rfl, rfl⟩)
            | (go_at_call 130; refine (unhide HC).mono ?_; rintro e w2 ⟨rfl, hb2⟩; have HB2 := hide hb2;  clear hb2))
          go_ret
          exact ⟨rfl, unhide HB⟩
        · have f3 : (nc.kind == 5) = false := by simp [k3]
          by_cases k4 : nc.parent = -1
          · have f4 : (nc.parent != -1) = false := by simp [k4]
            cases k5 : coversM c nc p path with
            | true =>
              have e : mayM ns p np c nc (-1) path = 11 := by simp [mayM, k1, k2, k3, k5]
              rw [e]
              rw [k5] at HC
              clear e k1 k2 k3 k4 k5
              go_enter Try.func91, Try.ntmps91
              go_wp2_with (first
                | (go_at_call 53; refine (unhide HM).mono ?_; rintro e w' ⟨rfl, rfl⟩)
                | (go_at_call 54; refine (unhide HH _).mono ?_; rintro e w' ⟨rfl, rfl⟩)
                | (go_at_call 129; refine (unhide HP).mono ?_; rintro e w' ⟨rfl, rfl⟩)
                | (go_at_call 130; refine (unhide HC).mono ?_; rintro e w2 ⟨rfl, hb2⟩; have HB2 := hide hb2;  clear hb2))
              go_ret
              exact ⟨rfl, (unhide HB).trans ((unhide HB2).mono (by simp))⟩
            | false =>
              have e : mayM ns p np c nc (-1) path = 0 := by simp [mayM, k1, k2, k3, k4, k5]
              rw [e]
              rw [k5] at HC
              clear e k1 k2 k3 k4 k5
              go_enter Try.func91, Try.ntmps91
              go_wp2_with (first
                | (go_at_call 53; refine (unhide HM).mono ?_; rintro e w' ⟨rfl, rfl⟩)
                | (go_at_call 54; refine (unhide HH _).mono ?_; rintro e w' ⟨rfl, rfl⟩)
                | (go_at_call 129; refine (unhide HP).mono ?_; rintro e w' ⟨rfl, rfl⟩)
                | (go_at_call 130; refine (unhide HC).mono ?_; rintro e w2 ⟨rfl, hb2⟩; have HB2 := hide hb2;  clear hb2))
              go_ret
              exact ⟨rfl, (unhide HB).trans ((unhide HB2).mono (by simp))⟩
          · have f4 : (nc.parent != -1) = true := by simp [k4]
            have e : mayM ns p np c nc (-1) path = 11 := by simp [mayM, k1, k2, k3, k4]
            rw [e]
            clear e k1 k2 k3 k4 HC
            go_enter Try.func91, Try.ntmps91
            go_wp2_with (first
              | (go_at_call 53; refine (unhide HM).mono ?_; rintro e w' ⟨rfl, rfl⟩)
              | (go_at_call 54; refine (unhide HH _).mono ?_; rintro e w' ⟨rfl, rfl⟩)
              | (go_at_call 129; refine (unhide HP).mono ?_; rintro e w' ⟨rfl, rfl⟩)
              | (go_at_call 130; refine (unhide HC).mono ?_; rintro e w2 ⟨rfl, hb2⟩; have HB2 := hide hb2;  clear hb2))
            go_ret
            exact ⟨rfl, unhide HB⟩
  · have fb : ((ib : Int) != -1) = true := by rw [bne_iff_ne]; omega
    have q3 : hasM ns ib = true := by simp [hasM, lb]
    cases k1 : parentM np.kind with
    | false =>
      have e : mayM ns p np c nc ib path = 10 := by simp [mayM, k1]
      rw [e]
      rw [k1] at HP
      clear e k1 HC
      go_enter Try.func91, Try.ntmps91
      go_wp2_with (first
        | (go_at_call 53; refine (unhide HM).mono ?_; rintro e w' ⟨rfl, rfl⟩)
        | (go_at_call 54; refine (unhide HH _).mono ?_; rintro e w' ⟨rfl, rfl⟩)
        | (go_at_call 129; refine (unhide HP).mono ?_; rintro e w' ⟨rfl, rfl⟩)
        | (go_at_call 130; refine (unhide HC).mono ?_; rintro e w2 ⟨rfl, hb2⟩; have HB2 := hide hb2;  clear hb2))
      go_ret
      exact ⟨rfl, unhide HB⟩
    | true =>
      rw [k1] at HP
      by_cases k2 : nc.kind = 0
      · have e : mayM ns p np c nc ib path = 10 := by simp [mayM, k2]
        rw [e]
        have f2 : (nc.kind == 0) = true := by simp [k2]
        clear e k1 k2 HC
        go_enter Try.func91, Try.ntmps91
        go_wp2_with (first
          | (go_at_call 53; refine (unhide HM).mono ?_; rintro e w' ⟨rfl, rfl⟩)
          | (go_at_call 54; refine (unhide HH _).mono ?_; rintro e w' ⟨rfl, rfl⟩)
          | (go_at_call 129; refine (unhide HP).mono ?_; rintro e w' ⟨rfl, rfl⟩)
          | (go_at_call 130; refine (unhide HC).mono ?_; rintro e w2 ⟨rfl, hb2⟩; have HB2 := hide hb2;  clear hb2))
        go_ret
        exact ⟨rfl, unhide HB⟩
      · have f2 : (nc.kind == 0) = false := by simp [k2]
        by_cases k3 : nc.kind = 5
        · have e : mayM ns p np c nc ib path = 10 := by simp [mayM, k3]
          rw [e]
          have f3 : (nc.kind == 5) = true := by simp [k3]
          clear e k1 k2 k3 HC
          go_enter Try.func91, Try.ntmps91
          go_wp2_with (first
            | (go_at_call 53; refine (unhide HM).mono ?_; rintro e w' ⟨rfl, rfl⟩)
            | (go_at_call 54; refine (unhide HH _).mono ?_; rintro e w' ⟨rfl, rfl⟩)
            | (go_at_call 129; refine (unhide HP).mono ?_; rintro e w' ⟨rfl, rfl⟩)
            | (go_at_call 130; refine (unhide HC).mono ?_; rintro e w2 ⟨rfl, hb2⟩; have HB2 := hide hb2;  clear hb2))
          go_ret
          exact ⟨rfl, unhide HB⟩
        · have f3 : (nc.kind == 5) = false := by simp [k3]
          by_cases k4 : nc.parent = -1
          · have f4 : (nc.parent != -1) = false := by simp [k4]
            cases k5 : coversM c nc p path with
            | true =>
              have e : mayM ns p np c nc ib path = 11 := by simp [mayM, k1, k2, k3, k5]
              rw [e]
              rw [k5] at HC
              clear e k1 k2 k3 k4 k5
              go_enter Try.func91, Try.ntmps91
              go_wp2_with (first
                | (go_at_call 53; refine (unhide HM).mono ?_; rintro e w' ⟨rfl, rfl⟩)
                | (go_at_call 54; refine (unhide HH _).mono ?_; rintro e w' ⟨rfl, rfl⟩)
                | (go_at_call 129; refine (unhide HP).mono ?_; rintro e w' ⟨rfl, rfl⟩)
                | (go_at_call 130; refine (unhide HC).mono ?_; rintro e w2 ⟨rfl, hb2⟩; have HB2 := hide hb2;  clear hb2))
              go_ret
              exact ⟨rfl, (unhide HB).trans ((unhide HB2).mono (by simp))⟩
            | false =>
              obtain ⟨nb, hnb⟩ : ∃ nb, ns[ib]? = some nb := ⟨_, List.getElem?_eq_getElem lb⟩
              rw [k5] at HC
              by_cases k6 : nb.parent = p
              · have e : mayM ns p np c nc ib path = 0 := by simp [mayM, k1, k2, k3, k4, k5, hnb, k6]
                rw [e]
                have f6 : (nb.parent != (p : Int)) = false := by simp [k6]
                have HNB := hide hnb
                clear e k1 k2 k3 k4 k5 k6 hnb
                go_enter Try.func91, Try.ntmps91
                go_wp2_with (first
                  | (go_at_call 53; refine (unhide HM).mono ?_; rintro e w' ⟨rfl, rfl⟩)
                  | (go_at_call 54; refine (unhide HH _).mono ?_; rintro e w' ⟨rfl, rfl⟩)
                  | (go_at_call 129; refine (unhide HP).mono ?_; rintro e w' ⟨rfl, rfl⟩)
                  | (go_at_call 130; refine (unhide HC).mono ?_; rintro e w2 ⟨rfl, hb2⟩; have HB2 := hide hb2; have har2 := ((unhide HAR).below (unhide HB)).below hb2; have hA2 := har2.cA; have hS2 := har2.cS; have hp2 := (har2.cells12 (unhide HNB)).2.2.2.2.2.2.1; clear har2; clear hb2))
                go_ret
                exact ⟨rfl, (unhide HB).trans ((unhide HB2).mono (by simp))⟩
              · have e : mayM ns p np c nc ib path = 1 := by have hne : ¬ ((ib : Int) = -1) := (by omega); simp [mayM, k1, k2, k3, k4, k5, hnb, k6, hne]
                rw [e]
                have f6 : (nb.parent != (p : Int)) = true := by simp [k6]
                have HNB := hide hnb
                clear e k1 k2 k3 k4 k5 k6 hnb
                go_enter Try.func91, Try.ntmps91
                go_wp2_with (first
                  | (go_at_call 53; refine (unhide HM).mono ?_; rintro e w' ⟨rfl, rfl⟩)
                  | (go_at_call 54; refine (unhide HH _).mono ?_; rintro e w' ⟨rfl, rfl⟩)
                  | (go_at_call 129; refine (unhide HP).mono ?_; rintro e w' ⟨rfl, rfl⟩)
                  | (go_at_call 130; refine (unhide HC).mono ?_; rintro e w2 ⟨rfl, hb2⟩; have HB2 := hide hb2; have har2 := ((unhide HAR).below (unhide HB)).below hb2; have hA2 := har2.cA; have hS2 := har2.cS; have hp2 := (har2.cells12 (unhide HNB)).2.2.2.2.2.2.1; clear har2; clear hb2))
                go_ret
                exact ⟨rfl, (unhide HB).trans ((unhide HB2).mono (by simp))⟩
          · have f4 : (nc.parent != -1) = true := by simp [k4]
            have e : mayM ns p np c nc ib path = 11 := by simp [mayM, k1, k2, k3, k4]
            rw [e]
            clear e k1 k2 k3 k4 HC
            go_enter Try.func91, Try.ntmps91
            go_wp2_with (first
              | (go_at_call 53; refine (unhide HM).mono ?_; rintro e w' ⟨rfl, rfl⟩)
              | (go_at_call 54; refine (unhide HH _).mono ?_; rintro e w' ⟨rfl, rfl⟩)
              | (go_at_call 129; refine (unhide HP).mono ?_; rintro e w' ⟨rfl, rfl⟩)
              | (go_at_call 130; refine (unhide HC).mono ?_; rintro e w2 ⟨rfl, hb2⟩; have HB2 := hide hb2;  clear hb2))
            go_ret
            exact ⟨rfl, unhide HB⟩
end Go.Proofs.Ytlbkoafeedlfaaa
