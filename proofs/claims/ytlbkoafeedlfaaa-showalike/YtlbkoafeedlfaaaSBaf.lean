/-
  mayLink at nodes that are there; Link. Link and Unlink.
-/
import Derived.Test.YtlbkoafeedlfaaaSBae
import Derived.Deep.RegionWith
namespace Go.Proofs.Ytlbkoafeedlfaaa
open Go.RowKit

set_option maxHeartbeats 4000000 in
theorem mayLink_in {w : World} {base bA bS g cap : Nat} {ns : List NodeM} (h : Ar w base bA bS g cap ns) (p : Nat) (np : NodeM) (hp : ns[p]? = some np) (c : Nat) (nc : NodeM) (hc : ns[c]? = some nc) (b : Int) (hb : okK ns b)
    (path : List Nat) (hpath : PathOf (upF ns) p path) :
    Calls Try.prog 91 #[.pointer (some ⟨bA, 0, none⟩), .int .i64 p, .int .i64 c, .int .i64 b] w fun e w' => e = .returned (.int .i64 (mayM ns p np c nc b path)) ∧ Below w.heap.size w w' := by
  have lp : p < ns.length := (List.getElem?_eq_some_iff.1 hp).1
  have lc : c < ns.length := (List.getElem?_eq_some_iff.1 hc).1
  have hm := h.most
  have HM := hide (made_yes h)
  have HH := hide (fun k => has_any h k)
  have q1 : hasM ns p = true := by simp [hasM, lp]
  have q2 : hasM ns c = true := by simp [hasM, lc]
  obtain ⟨ao, co, hav⟩ := av_form h hc
  have h1 := h.alloc (.cells (copyCells nc ao co) 37)
  have HP := hide (isParent_any (w := w.alloc (.cells (copyCells nc ao co) 37)) np.kind)
  have HC := hide (covers_any h1 c nc hc p lp path hpath)
  have HB := hide ((Below.refl _ w).alloc (Nat.le_refl _) (.cells (copyCells nc ao co) 37))
  obtain ⟨c0, c1, c2, c3, c4, c5, c6, c7, c8, c9, c10, c11⟩ := h.cells12 hc
  rw [hav] at c3
  have d0 := (h.cells12 hp).1
  have hA := h.cA
  have hS := h.cS
  have ltg := h.lt.2.2
  have ltS := h.lt.2.1
  have ltA := h.lt.1
  unfold copyCells at HP HC HB
  have HAR := hide h
  clear h h1 hav hp hc hpath
  rcases hb with rfl | ⟨ib, rfl, lb⟩
  · have fb : ((-1 : Int) != -1) = false := rfl
    cases k1 : parentM np.kind with
    | false =>
      have e : mayM ns p np c nc (-1) path = 10 := by simp [mayM, k1]
      rw [e]
      rw [k1] at HP
      clear e k1 HC
      go_enter Try.func91, Try.ntmps91
      go_wp2_with (first
        | (go_at_call 53; refine (unhide HM).mono ?_; rintro e w' ⟨rfl, rfl⟩)
        | (go_at_call 54; refine (unhide HH _).mono ?_; rintro e w' ⟨rfl, rfl⟩)
        | (go_at_call 129; refine (unhide HP).mono ?_; rintro e w' ⟨rfl, rfl⟩)
        | (go_at_call 130; refine (unhide HC).mono ?_; rintro e w2 ⟨rfl, hb2⟩; have HB2 := hide hb2;  clear hb2))
      go_ret
      exact ⟨rfl, unhide HB⟩
    | true =>
      rw [k1] at HP
      by_cases k2 : nc.kind = 0
      · have e : mayM ns p np c nc (-1) path = 10 := by simp [mayM, k2]
        rw [e]
        have f2 : (nc.kind == 0) = true := by simp [k2]
        clear e k1 k2 HC
        go_enter Try.func91, Try.ntmps91
        go_wp2_with (first
          | (go_at_call 53; refine (unhide HM).mono ?_; rintro e w' ⟨rfl, rfl⟩)
          | (go_at_call 54; refine (unhide HH _).mono ?_; rintro e w' ⟨rfl, rfl⟩)
          | (go_at_call 129; refine (unhide HP).mono ?_; rintro e w' ⟨rfl, rfl⟩)
          | (go_at_call 130; refine (unhide HC).mono ?_; rintro e w2 ⟨rfl, hb2⟩; have HB2 := hide hb2;  clear hb2))
        go_ret
        exact ⟨rfl, unhide HB⟩
      · have f2 : (nc.kind == 0) = false := by simp [k2]
        by_cases k3 : nc.kind = 5
        · have e : mayM ns p np c nc (-1) path = 10 := by simp [mayM, k3]
          rw [e]
          have f3 : (nc.kind == 5) = true := by simp [k3]
          clear e k1 k2 k3 HC
          go_enter Try.func91, Try.ntmps91
          go_wp2_with (first
            | (go_at_call 53; refine (unhide HM).mono ?_; rintro e w' ⟨rfl, rfl⟩)
            | (go_at_call 54; refine (unhide HH _).mono ?_; rintro e w' ⟨rfl, rfl⟩)
            | (go_at_call 129; refine (unhide HP).mono ?_; rintro e w' ⟨rfl, rfl⟩)
            | (go_at_call 130; refine (unhide HC).mono ?_; rintro e w2 ⟨rfl, hb2⟩; have HB2 := hide hb2;  clear hb2))
          go_ret
          exact ⟨rfl, unhide HB⟩
        · have f3 : (nc.kind == 5) = false := by simp [k3]
          by_cases k4 : nc.parent = -1
          · have f4 : (nc.parent != -1) = false := by simp [k4]
            cases k5 : coversM c nc p path with
            | true =>
              have e : mayM ns p np c nc (-1) path = 11 := by simp [mayM, k1, k2, k3, k5]
              rw [e]
              rw [k5] at HC
              clear e k1 k2 k3 k4 k5
              go_enter Try.func91, Try.ntmps91
              go_wp2_with (first
                | (go_at_call 53; refine (unhide HM).mono ?_; rintro e w' ⟨rfl, rfl⟩)
                | (go_at_call 54; refine (unhide HH _).mono ?_; rintro e w' ⟨rfl, rfl⟩)
                | (go_at_call 129; refine (unhide HP).mono ?_; rintro e w' ⟨rfl, rfl⟩)
                | (go_at_call 130; refine (unhide HC).mono ?_; rintro e w2 ⟨rfl, hb2⟩; have HB2 := hide hb2;  clear hb2))
              go_ret
              exact ⟨rfl, (unhide HB).trans ((unhide HB2).mono (by simp))⟩
            | false =>
              have e : mayM ns p np c nc (-1) path = 0 := by simp [mayM, k1, k2, k3, k4, k5]
              rw [e]
              rw [k5] at HC
              clear e k1 k2 k3 k4 k5
              go_enter Try.func91, Try.ntmps91
              go_wp2_with (first
                | (go_at_call 53; refine (unhide HM).mono ?_; rintro e w' ⟨rfl, rfl⟩)
                | (go_at_call 54; refine (unhide HH _).mono ?_; rintro e w' ⟨rfl, rfl⟩)
                | (go_at_call 129; refine (unhide HP).mono ?_; rintro e w' ⟨rfl, rfl⟩)
                | (go_at_call 130; refine (unhide HC).mono ?_; rintro e w2 ⟨rfl, hb2⟩; have HB2 := hide hb2;  clear hb2))
              go_ret
              exact ⟨rfl, (unhide HB).trans ((unhide HB2).mono (by simp))⟩
          · have f4 : (nc.parent != -1) = true := by simp [k4]
            have e : mayM ns p np c nc (-1) path = 11 := by simp [mayM, k1, k2, k3, k4]
            rw [e]
            clear e k1 k2 k3 k4 HC
            go_enter Try.func91, Try.ntmps91
            go_wp2_with (first
              | (go_at_call 53; refine (unhide HM).mono ?_; rintro e w' ⟨rfl, rfl⟩)
              | (go_at_call 54; refine (unhide HH _).mono ?_; rintro e w' ⟨rfl, rfl⟩)
              | (go_at_call 129; refine (unhide HP).mono ?_; rintro e w' ⟨rfl, rfl⟩)
              | (go_at_call 130; refine (unhide HC).mono ?_; rintro e w2 ⟨rfl, hb2⟩; have HB2 := hide hb2;  clear hb2))
            go_ret
            exact ⟨rfl, unhide HB⟩
  · have fb : ((ib : Int) != -1) = true := by rw [bne_iff_ne]; omega
    have q3 : hasM ns ib = true := by simp [hasM, lb]
    cases k1 : parentM np.kind with
    | false =>
      have e : mayM ns p np c nc ib path = 10 := by simp [mayM, k1]
      rw [e]
      rw [k1] at HP
      clear e k1 HC
      go_enter Try.func91, Try.ntmps91
      go_wp2_with (first
        | (go_at_call 53; refine (unhide HM).mono ?_; rintro e w' ⟨rfl, rfl⟩)
        | (go_at_call 54; refine (unhide HH _).mono ?_; rintro e w' ⟨rfl, rfl⟩)
        | (go_at_call 129; refine (unhide HP).mono ?_; rintro e w' ⟨rfl, rfl⟩)
        | (go_at_call 130; refine (unhide HC).mono ?_; rintro e w2 ⟨rfl, hb2⟩; have HB2 := hide hb2;  clear hb2))
      go_ret
      exact ⟨rfl, unhide HB⟩
    | true =>
      rw [k1] at HP
      by_cases k2 : nc.kind = 0
      · have e : mayM ns p np c nc ib path = 10 := by simp [mayM, k2]
        rw [e]
        have f2 : (nc.kind == 0) = true := by simp [k2]
        clear e k1 k2 HC
        go_enter Try.func91, Try.ntmps91
        go_wp2_with (first
          | (go_at_call 53; refine (unhide HM).mono ?_; rintro e w' ⟨rfl, rfl⟩)
          | (go_at_call 54; refine (unhide HH _).mono ?_; rintro e w' ⟨rfl, rfl⟩)
          | (go_at_call 129; refine (unhide HP).mono ?_; rintro e w' ⟨rfl, rfl⟩)
          | (go_at_call 130; refine (unhide HC).mono ?_; rintro e w2 ⟨rfl, hb2⟩; have HB2 := hide hb2;  clear hb2))
        go_ret
        exact ⟨rfl, unhide HB⟩
      · have f2 : (nc.kind == 0) = false := by simp [k2]
        by_cases k3 : nc.kind = 5
        · have e : mayM ns p np c nc ib path = 10 := by simp [mayM, k3]
          rw [e]
          have f3 : (nc.kind == 5) = true := by simp [k3]
          clear e k1 k2 k3 HC
          go_enter Try.func91, Try.ntmps91
          go_wp2_with (first
            | (go_at_call 53; refine (unhide HM).mono ?_; rintro e w' ⟨rfl, rfl⟩)
            | (go_at_call 54; refine (unhide HH _).mono ?_; rintro e w' ⟨rfl, rfl⟩)
            | (go_at_call 129; refine (unhide HP).mono ?_; rintro e w' ⟨rfl, rfl⟩)
            | (go_at_call 130; refine (unhide HC).mono ?_; rintro e w2 ⟨rfl, hb2⟩; have HB2 := hide hb2;  clear hb2))
          go_ret
          exact ⟨rfl, unhide HB⟩
        · have f3 : (nc.kind == 5) = false := by simp [k3]
          by_cases k4 : nc.parent = -1
          · have f4 : (nc.parent != -1) = false := by simp [k4]
            cases k5 : coversM c nc p path with
            | true =>
              have e : mayM ns p np c nc ib path = 11 := by simp [mayM, k1, k2, k3, k5]
              rw [e]
              rw [k5] at HC
              clear e k1 k2 k3 k4 k5
              go_enter Try.func91, Try.ntmps91
              go_wp2_with (first
                | (go_at_call 53; refine (unhide HM).mono ?_; rintro e w' ⟨rfl, rfl⟩)
                | (go_at_call 54; refine (unhide HH _).mono ?_; rintro e w' ⟨rfl, rfl⟩)
                | (go_at_call 129; refine (unhide HP).mono ?_; rintro e w' ⟨rfl, rfl⟩)
                | (go_at_call 130; refine (unhide HC).mono ?_; rintro e w2 ⟨rfl, hb2⟩; have HB2 := hide hb2;  clear hb2))
              go_ret
              exact ⟨rfl, (unhide HB).trans ((unhide HB2).mono (by simp))⟩
            | false =>
              obtain ⟨nb, hnb⟩ : ∃ nb, ns[ib]? = some nb := ⟨_, List.getElem?_eq_getElem lb⟩
              rw [k5] at HC
              by_cases k6 : nb.parent = p
              · have e : mayM ns p np c nc ib path = 0 := by simp [mayM, k1, k2, k3, k4, k5, hnb, k6]
                rw [e]
                have f6 : (nb.parent != (p : Int)) = false := by simp [k6]
                have HNB := hide hnb
                clear e k1 k2 k3 k4 k5 k6 hnb
                go_enter Try.func91, Try.ntmps91
                go_wp2_with (first
                  | (go_at_call 53; refine (unhide HM).mono ?_; rintro e w' ⟨rfl, rfl⟩)
                  | (go_at_call 54; refine (unhide HH _).mono ?_; rintro e w' ⟨rfl, rfl⟩)
                  | (go_at_call 129; refine (unhide HP).mono ?_; rintro e w' ⟨rfl, rfl⟩)
                  | (go_at_call 130; refine (unhide HC).mono ?_; rintro e w2 ⟨rfl, hb2⟩; have HB2 := hide hb2; have har2 := ((unhide HAR).below (unhide HB)).below hb2; have hA2 := har2.cA; have hS2 := har2.cS; have hp2 := (har2.cells12 (unhide HNB)).2.2.2.2.2.2.1; clear har2; clear hb2))
                go_ret
                exact ⟨rfl, (unhide HB).trans ((unhide HB2).mono (by simp))⟩
              · have e : mayM ns p np c nc ib path = 1 := by have hne : ¬ ((ib : Int) = -1) := (by omega); simp [mayM, k1, k2, k3, k4, k5, hnb, k6, hne]
                rw [e]
                have f6 : (nb.parent != (p : Int)) = true := by simp [k6]
                have HNB := hide hnb
                clear e k1 k2 k3 k4 k5 k6 hnb
                go_enter Try.func91, Try.ntmps91
                go_wp2_with (first
                  | (go_at_call 53; refine (unhide HM).mono ?_; rintro e w' ⟨rfl, rfl⟩)
                  | (go_at_call 54; refine (unhide HH _).mono ?_; rintro e w' ⟨rfl, rfl⟩)
                  | (go_at_call 129; refine (unhide HP).mono ?_; rintro e w' ⟨rfl, rfl⟩)
                  | (go_at_call 130; refine (unhide HC).mono ?_; rintro e w2 ⟨rfl, hb2⟩; have HB2 := hide hb2; have har2 := ((unhide HAR).below (unhide HB)).below hb2; have hA2 := har2.cA; have hS2 := har2.cS; have hp2 := (har2.cells12 (unhide HNB)).2.2.2.2.2.2.1; clear har2; clear hb2))
                go_ret
                exact ⟨rfl, (unhide HB).trans ((unhide HB2).mono (by simp))⟩
          · have f4 : (nc.parent != -1) = true := by simp [k4]
            have e : mayM ns p np c nc ib path = 11 := by simp [mayM, k1, k2, k3, k4]
            rw [e]
            clear e k1 k2 k3 k4 HC
            go_enter Try.func91, Try.ntmps91
            go_wp2_with (first
              | (go_at_call 53; refine (unhide HM).mono ?_; rintro e w' ⟨rfl, rfl⟩)
              | (go_at_call 54; refine (unhide HH _).mono ?_; rintro e w' ⟨rfl, rfl⟩)
              | (go_at_call 129; refine (unhide HP).mono ?_; rintro e w' ⟨rfl, rfl⟩)
              | (go_at_call 130; refine (unhide HC).mono ?_; rintro e w2 ⟨rfl, hb2⟩; have HB2 := hide hb2;  clear hb2))
            go_ret
            exact ⟨rfl, unhide HB⟩
end Go.Proofs.Ytlbkoafeedlfaaa

namespace Go.Proofs.Ytlbkoafeedlfaaa
open Go.RowKit

def linkM (ns : List NodeM) (p c : Nat) (b prev : Int) : List NodeM := joinM (joinM (upd ns c (setParent p)) p prev c) p c b
def prevM (ns : List NodeM) (np : NodeM) (b : Int) : Int := if b = -1 then np.last else ((ns[b.toNat]?).map (·.prev)).getD (-1)

theorem okK_len {ns ms : List NodeM} (h : ms.length = ns.length) {k : Int} (hk : okK ns k) : okK ms k := by
  rcases hk with rfl | ⟨i, rfl, hi⟩
  · exact .inl rfl
  · exact .inr ⟨i, rfl, by omega⟩

/-- An arena whose nodes were written in place. -/
theorem upd_of_mod {w w' : World} {base bA bS g cap : Nat} {ns ms : List NodeM} {F : Nat → Prop} (hF : ∀ k, F k ↔ foot bA bS g ns k) (h : Ar w' base bA bS g cap ms) (hm : Mod (fun k => k = g) w w')
    (hav : ∀ k, foot bA bS g ms k → foot bA bS g ns k) : Upd F w w' base bA ms :=
  ⟨_, ⟨bS, g, cap, h, fun k => Iff.rfl⟩, hm.mono (fun k _ hk => (hF k).2 (by subst hk; exact .inr (.inr (.inl rfl)))), fun k hk => .inl ((hF k).2 (hav k hk))⟩

theorem foot_upd {bA bS g : Nat} (ns : List NodeM) (i : Nat) (f : NodeM → NodeM) (hf : ∀ n, (f n).av = n.av) (k : Nat) (h : foot bA bS g (upd ns i f) k) : foot bA bS g ns k := by
  rcases h with h | h | h | ⟨n, hn, hk⟩
  · exact .inl h
  · exact .inr (.inl h)
  · exact .inr (.inr (.inl h))
  · refine .inr (.inr (.inr ?_))
    obtain ⟨j, hj⟩ := List.mem_iff_getElem?.1 hn
    by_cases e : i = j
    · subst e
      cases hi : ns[i]? with
      | none => rw [upd, hi] at hj; rw [hi] at hj; cases hj
      | some m =>
        rw [upd_get_same hi] at hj
        simp at hj; subst hj
        exact ⟨m, List.mem_of_getElem? hi, by rw [← hf m]; exact hk⟩
    · rw [upd_get_other ns e] at hj
      exact ⟨n, List.mem_of_getElem? hj, hk⟩

theorem foot_join {bA bS g : Nat} (ns : List NodeM) (p : Nat) (a b : Int) (k : Nat) (h : foot bA bS g (joinM ns p a b) k) : foot bA bS g ns k := by
  unfold joinM at h
  have h1 : foot bA bS g (joinA ns p a b) k := by
    unfold joinB at h
    split at h
    · exact foot_upd _ _ (setLast a) (fun _ => rfl) k h
    · exact foot_upd _ _ (setPrev a) (fun _ => rfl) k h
  unfold joinA at h1
  split at h1
  · exact foot_upd _ _ (setFirst b) (fun _ => rfl) k h1
  · exact foot_upd _ _ (setNext b) (fun _ => rfl) k h1

theorem foot_link {bA bS g : Nat} (ns : List NodeM) (p c : Nat) (b prev : Int) (k : Nat) (h : foot bA bS g (linkM ns p c b prev) k) : foot bA bS g ns k := by
  unfold linkM at h
  have h1 := foot_join _ _ _ _ k h
  have h2 := foot_join _ _ _ _ k h1
  exact foot_upd _ _ (setParent p) (fun _ => rfl) k h2

theorem link_err {w : World} {base bA bS g cap : Nat} {ns : List NodeM} (p c b e : Int) (he : e ≠ 0) (hmay : Calls Try.prog 91 #[.pointer (some ⟨bA, 0, none⟩), .int .i64 p, .int .i64 c, .int .i64 b] w fun x w' => x = .returned (.int .i64 e) ∧ Below w.heap.size w w') (_h : Ar w base bA bS g cap ns) :
    Calls Try.prog 35 #[.pointer (some ⟨bA, 0, none⟩), .int .i64 p, .int .i64 c, .int .i64 b] w fun x w' => x = .returned (.int .i64 e) ∧ Below w.heap.size w w' := by
  have HM := hide hmay
  have he' : (e != 0) = true := by simpa using he
  clear hmay he _h
  go_enter Try.func35, Try.ntmps35
  go_wp2_with (go_at_call 91; refine (unhide HM).mono ?_; rintro e w' ⟨rfl, hb⟩)
  go_ret
  exact ⟨rfl, hb⟩

set_option maxHeartbeats 2000000 in
theorem link_ok {w : World} {base bA bS g cap : Nat} {ns : List NodeM} (h : Ar w base bA bS g cap ns) (p : Nat) (np : NodeM) (hp : ns[p]? = some np) (c : Nat) (nc : NodeM) (hc : ns[c]? = some nc) (b : Int) (hb : okK ns b)
    (path : List Nat) (hpath : PathOf (upF ns) p path) (hmay : mayM ns p np c nc b path = 0) (hprev : okK ns (prevM ns np b)) :
    Calls Try.prog 35 #[.pointer (some ⟨bA, 0, none⟩), .int .i64 p, .int .i64 c, .int .i64 b] w fun e w' => e = .returned (.int .i64 0) ∧
      Ar w' base bA bS g cap (linkM ns p c b (prevM ns np b)) ∧ Mod (fun k => k = g) w w' := by
  have lp : p < ns.length := (List.getElem?_eq_some_iff.1 hp).1
  have lc : c < ns.length := (List.getElem?_eq_some_iff.1 hc).1
  have hmost := h.most
  have HM := hide (mayLink_in h p np hp c nc hc b hb path hpath)
  rw [hmay] at HM
  have HA := hide h
  have HP := hide hp
  clear h hpath hmay hp hc
  rcases hb with rfl | ⟨ib, rfl, lb⟩
  · have e1 : prevM ns np (-1) = np.last := by simp [prevM]
    rw [e1] at hprev ⊢
    have fb : ((-1 : Int) != -1) = false := rfl
    have HV := hide hprev
    clear e1 hprev
    go_enter Try.func35, Try.ntmps35
    go_wp2_with fail
    refine (unhide HM).mono ?_
    rintro e w2 ⟨rfl, hb2⟩
    have har2 := (unhide HA).below hb2
    have hA2 := har2.cA
    have hS2 := har2.cS
    have hl2 := (har2.cells12 (unhide HP)).2.2.2.2.2.2.2.2.1
    obtain ⟨v6, hc6⟩ := har2.there lc 6 (by omega)
    have hfg := har2.fg
    have h3 := har2.upd lc 6 (by omega) (.int .i64 p) (setParent p) (fun n => ⟨rfl, rfl, rfl⟩)
    have HJ := hide (join_any h3 p (by rw [upd_len]; exact lp) np.last c (okK_len (upd_len _ _ _) (unhide HV)) (.inr ⟨c, rfl, by rw [upd_len]; exact lc⟩))
    have HB2 := hide hb2
    clear har2 h3 hb2
    go_wp2_with fail
    refine (unhide HJ).mono ?_
    rintro e w4 ⟨rfl, har4, hm4⟩
    have HJ2 := hide (join_any har4 p (by rw [joinM_len, upd_len]; exact lp) c (-1) (.inr ⟨c, rfl, by rw [joinM_len, upd_len]; exact lc⟩) (.inl rfl))
    have HM4 := hide hm4
    clear har4 hm4
    go_wp2_with fail
    refine (unhide HJ2).mono ?_
    rintro e w5 ⟨rfl, har5, hm5⟩
    have HA5 := hide har5
    have HM5 := hide hm5
    clear har5 hm5
    go_wp2
    go_ret
    exact ⟨rfl, unhide HA5, (((Mod.of_below (unhide HB2)).trans (Mod.setCell (F := fun k => k = g) w2 ⟨g, c * 12 + 6, none⟩ _ rfl)).trans (unhide HM4)).trans (unhide HM5)⟩
  · obtain ⟨nb, hnb⟩ : ∃ nb, ns[ib]? = some nb := ⟨_, List.getElem?_eq_getElem lb⟩
    have e1 : prevM ns np ib = nb.prev := by have hne : ¬ ((ib : Int) = -1) := (by omega); simp [prevM, hne, hnb]
    rw [e1] at hprev ⊢
    have fb : ((ib : Int) != -1) = true := by rw [bne_iff_ne]; omega
    have HV := hide hprev
    have HNB := hide hnb
    clear e1 hprev hnb
    go_enter Try.func35, Try.ntmps35
    go_wp2_with fail
    refine (unhide HM).mono ?_
    rintro e w2 ⟨rfl, hb2⟩
    have har2 := (unhide HA).below hb2
    have hA2 := har2.cA
    have hS2 := har2.cS
    have hl2 := (har2.cells12 (unhide HP)).2.2.2.2.2.2.2.2.1
    have hp2 := (har2.cells12 (unhide HNB)).2.2.2.2.2.2.2.2.2.1
    obtain ⟨v6, hc6⟩ := har2.there lc 6 (by omega)
    have hfg := har2.fg
    have h3 := har2.upd lc 6 (by omega) (.int .i64 p) (setParent p) (fun n => ⟨rfl, rfl, rfl⟩)
    have HJ := hide (join_any h3 p (by rw [upd_len]; exact lp) nb.prev c (okK_len (upd_len _ _ _) (unhide HV)) (.inr ⟨c, rfl, by rw [upd_len]; exact lc⟩))
    have HB2 := hide hb2
    clear har2 h3 hb2
    go_wp2_with fail
    refine (unhide HJ).mono ?_
    rintro e w4 ⟨rfl, har4, hm4⟩
    have HJ2 := hide (join_any har4 p (by rw [joinM_len, upd_len]; exact lp) c ib (.inr ⟨c, rfl, by rw [joinM_len, upd_len]; exact lc⟩) (.inr ⟨ib, rfl, by rw [joinM_len, upd_len]; exact lb⟩))
    have HM4 := hide hm4
    clear har4 hm4
    go_wp2_with fail
    refine (unhide HJ2).mono ?_
    rintro e w5 ⟨rfl, har5, hm5⟩
    have HA5 := hide har5
    have HM5 := hide hm5
    clear har5 hm5
    go_wp2
    go_ret
    exact ⟨rfl, unhide HA5, (((Mod.of_below (unhide HB2)).trans (Mod.setCell (F := fun k => k = g) w2 ⟨g, c * 12 + 6, none⟩ _ rfl)).trans (unhide HM4)).trans (unhide HM5)⟩

def unlinkM (ns : List NodeM) (i : Nat) (n : NodeM) : List NodeM := upd (upd (upd (joinM ns n.parent.toNat n.prev n.next) i (setParent (-1))) i (setPrev (-1))) i (setNext (-1))

theorem foot_unlink {bA bS g : Nat} (ns : List NodeM) (i : Nat) (n : NodeM) (k : Nat) (h : foot bA bS g (unlinkM ns i n) k) : foot bA bS g ns k := by
  unfold unlinkM at h
  have h1 := foot_upd _ _ (setNext (-1)) (fun _ => rfl) k h
  have h2 := foot_upd _ _ (setPrev (-1)) (fun _ => rfl) k h1
  have h3 := foot_upd _ _ (setParent (-1)) (fun _ => rfl) k h2
  exact foot_join _ _ _ _ k h3

theorem unlink_none {w : World} {base bA bS g cap : Nat} {ns : List NodeM} (h : Ar w base bA bS g cap ns) (k : Int) (hk : hasM ns k = false) :
    Calls Try.prog 39 #[.pointer (some ⟨bA, 0, none⟩), .int .i64 k] w fun e w' => e = .returned (.int .i64 6) ∧ w = w' := by
  have HM := hide (made_yes h)
  have HH := hide (has_any h k)
  rw [hk] at HH
  clear h hk
  go_enter Try.func39, Try.ntmps39
  go_wp2_with (first
    | (go_at_call 53; refine (unhide HM).mono ?_; rintro e w' ⟨rfl, rfl⟩)
    | (go_at_call 54; refine (unhide HH).mono ?_; rintro e w' ⟨rfl, rfl⟩))
  go_ret
  exact ⟨rfl, rfl⟩

theorem unlink_free {w : World} {base bA bS g cap : Nat} {ns : List NodeM} (h : Ar w base bA bS g cap ns) (i : Nat) (n : NodeM) (hi : ns[i]? = some n) (hp : n.parent = -1) :
    Calls Try.prog 39 #[.pointer (some ⟨bA, 0, none⟩), .int .i64 i] w fun e w' => e = .returned (.int .i64 5) ∧ w = w' := by
  have li : i < ns.length := (List.getElem?_eq_some_iff.1 hi).1
  have hm := h.most
  have HM := hide (made_yes h)
  have HH := hide (has_any h i)
  have q1 : hasM ns i = true := by simp [hasM, li]
  rw [q1] at HH
  have hA := h.cA
  have hS := h.cS
  have c6 := (h.cells12 hi).2.2.2.2.2.2.1
  have f1 : (n.parent == -1) = true := by simp [hp]
  clear h hi q1 hp
  go_enter Try.func39, Try.ntmps39
  go_wp2_with (first
    | (go_at_call 53; refine (unhide HM).mono ?_; rintro e w' ⟨rfl, rfl⟩)
    | (go_at_call 54; refine (unhide HH).mono ?_; rintro e w' ⟨rfl, rfl⟩))
  go_ret
  exact ⟨rfl, rfl⟩

set_option maxHeartbeats 2000000 in
theorem unlink_ok {w : World} {base bA bS g cap : Nat} {ns : List NodeM} (h : Ar w base bA bS g cap ns) (i : Nat) (n : NodeM) (hi : ns[i]? = some n) (p : Nat) (hp : n.parent = p) (lp : p < ns.length) (hpr : okK ns n.prev) (hnx : okK ns n.next) :
    Calls Try.prog 39 #[.pointer (some ⟨bA, 0, none⟩), .int .i64 i] w fun e w' => e = .returned (.int .i64 0) ∧ Ar w' base bA bS g cap (unlinkM ns i n) ∧ Mod (fun k => k = g) w w' := by
  have li : i < ns.length := (List.getElem?_eq_some_iff.1 hi).1
  have hm := h.most
  have HM := hide (made_yes h)
  have HH := hide (has_any h i)
  have q1 : hasM ns i = true := by simp [hasM, li]
  rw [q1] at HH
  have hA := h.cA
  have hS := h.cS
  have c6 := (h.cells12 hi).2.2.2.2.2.2.1
  have c9 := (h.cells12 hi).2.2.2.2.2.2.2.2.2.1
  have c10 := (h.cells12 hi).2.2.2.2.2.2.2.2.2.2.1
  rw [hp] at c6
  have HJ := hide (fun (W : World) (hW : Ar W base bA bS g cap ns) => join_any hW p lp n.prev n.next hpr hnx)
  have HA := hide h
  have f1 : ((p : Int) == -1) = false := beq_eq_false_iff_ne.2 (by omega)
  have eU : unlinkM ns i n = upd (upd (upd (joinM ns p n.prev n.next) i (setParent (-1))) i (setPrev (-1))) i (setNext (-1)) := by simp [unlinkM, hp]
  rw [eU]
  clear h hi q1 hp hpr hnx eU
  go_enter Try.func39, Try.ntmps39
  go_wp2_with (first
    | (go_at_call 53; refine (unhide HM).mono ?_; rintro e w' ⟨rfl, rfl⟩)
    | (go_at_call 54; refine (unhide HH).mono ?_; rintro e w' ⟨rfl, rfl⟩))
  go_region_with (go_at_call 92; refine ((unhide HJ) _ (unhide HA).drew).mono ?_; rintro e w4 ⟨rfl, har4, hm4⟩; obtain ⟨v6, d6⟩ := har4.there (i := i) (by rw [joinM_len]; exact li) 6 (by omega); have g4 := har4.fg; have h5 := har4.upd (i := i) (by rw [joinM_len]; exact li) 6 (by omega) (.int .i64 (-1)) (setParent (-1)) (fun n => ⟨rfl, rfl, rfl⟩); obtain ⟨v9, d9⟩ := h5.there (i := i) (by rw [upd_len, joinM_len]; exact li) 9 (by omega); have h6 := h5.upd (i := i) (by rw [upd_len, joinM_len]; exact li) 9 (by omega) (.int .i64 (-1)) (setPrev (-1)) (fun n => ⟨rfl, rfl, rfl⟩); obtain ⟨v10, d10⟩ := h6.there (i := i) (by rw [upd_len, upd_len, joinM_len]; exact li) 10 (by omega); have h7 := h6.upd (i := i) (by rw [upd_len, upd_len, joinM_len]; exact li) 10 (by omega) (.int .i64 (-1)) (setNext (-1)) (fun n => ⟨rfl, rfl, rfl⟩); have H7 := hide h7; have HM4 := hide hm4; clear h5 h6 h7 hm4 har4)
  all_goals go_wp2
  all_goals go_ret
  all_goals exact ⟨rfl, unhide H7, (((((Mod.of_below (Below.refl _ w).drew).trans (unhide HM4)).trans (Mod.setCell (F := fun k => k = g) _ ⟨g, i * 12 + 6, none⟩ _ rfl)).trans (Mod.setCell (F := fun k => k = g) _ ⟨g, i * 12 + 9, none⟩ _ rfl)).trans (Mod.setCell (F := fun k => k = g) _ ⟨g, i * 12 + 10, none⟩ _ rfl))⟩
end Go.Proofs.Ytlbkoafeedlfaaa
