/-
  The document's list: Put, all its ways. The document's list: an entry's element is another one. The document's list: Swap.
-/
import Derived.Test.YtabdgmcajndgbaaSBbg
namespace Go.Proofs.Ytabdgmcajndgbaa
open Go.RowKit Go.Sort

section
variable {w : World} {base bQ bR : Nat} {v : Value} {qs : List EntQ} {ks : List Key} {F FR : Nat → Prop}
theorem decide_int {p q : Prop} [Decidable p] [Decidable q] (h : p ↔ q) : decide p = decide q := decide_eq_decide.2 h
set_option maxHeartbeats 4000000 in
theorem qput_any (h : QlM w base bQ bR v qs) (hF : ∀ k, F k ↔ footQ bQ v k) (hr : RfK w base bR ks FR) (hl : qs.length < 1000000000000) (i id : Int) (t : TokM) (pa : Option Addr) (pc : Nat) (hta : AttrsIn w pa t.attrs) (hlo : ∀ b off, pa = some ⟨b, off, none⟩ → t.attrs ≠ [] → b < base) : Calls Try.prog 31 #[.pointer (some ⟨bQ, 0, none⟩), .int .i64 i, .int .i64 id, .agg (t.cells (.slice pa t.attrs.length pc)).toArray] w fun e w' => e = .returned (.int .i64 (putRq ks qs i id)) ∧ UpdQ F w w' base bQ bR (putQ ks qs i id t pa pc) := by
  by_cases h0 : putRq ks qs i id = 0
  · have hh : (elK ks id).isSome = true ∧ ¬ (0 ≤ findQ qs id ∨ i < 0 ∨ (qs.length : Int) < i) := by
      unfold putRq at h0
      split at h0
      · rename_i h1
        split at h0
        · cases h0
        · rename_i h2; exact ⟨h1, h2⟩
      · cases h0
    obtain ⟨he, hn⟩ := hh
    have hf : ¬ 0 ≤ findQ qs id := fun e => hn (.inl e)
    obtain ⟨n, rfl⟩ : ∃ n : Nat, i = (n : Int) := ⟨i.toNat, by have : ¬ i < 0 := fun e => hn (.inr (.inl e)); omega⟩
    have hnl : n ≤ qs.length := by have : ¬ (qs.length : Int) < (n : Int) := fun e => hn (.inr (.inr e)); omega
    unfold putQ
    rw [h0, if_pos rfl]
    rw [show ((n : Int)).toNat = n from rfl]
    clear h0 hn
    rcases h.val with ⟨e, rfl⟩ | ⟨g, cap, rfl⟩
    · subst e
      obtain rfl : n = 0 := by simpa using hnl
      exact qput_none h hF hr id t pa pc hta hlo he hf
    · by_cases hne : cap = n
      · have hcap : qs.length ≤ cap := by
          rcases h.own.2 with ⟨e, _⟩ | ⟨g', cap', cur, e, _, _, h1, _⟩
          · cases e
          · cases e; exact h1
        have e1 : qs.take n ++ (⟨id, t, pa, pc⟩ : EntQ) :: qs.drop n = qs ++ [⟨id, t, pa, pc⟩] := by rw [List.take_of_length_le (by omega), List.drop_eq_nil_of_le (by omega)]
        rw [e1]
        exact qput_full h hF hr hl id t pa pc hta hlo he hf n (by omega) hne
      · exact qput_some h hF hr hl id t pa pc hta hlo he hf n hnl hne
  · have e0 : putQ ks qs i id t pa pc = qs := by unfold putQ; rw [if_neg h0]
    rw [e0]
    have HS := hide (fun w' (hb : Below w.heap.size w w') => h.same hF hb)
    have HEL := hide (fun W (hb : Below w.heap.size w W) => rElement_any (hr.below hb) id)
    have HFI := hide (fun W (hb : Below w.heap.size w W) => qfind_any (h.below hb) (by omega) id)
    obtain ⟨c0, c1, _⟩ := h.cells
    obtain ⟨va, vc, rfl⟩ := h.len
    have hz : (qs.length : Int) < 1000000000000 := by omega
    obtain ⟨t0, t1, t2, t3, t4, t5, t6, t7, ta⟩ := t
    simp only [TokM.cells]
    have k0 := cell_kept (below_new w (.cells #[.int .i64 t0, .string t1, .string t2, .string t3, .int .i64 t4, .bool t5, .int .i32 t6, .bool t7, .slice pa ta.length pc] 37)) c0
    have k1 := cell_kept (below_new w (.cells #[.int .i64 t0, .string t1, .string t2, .string t3, .int .i64 t4, .bool t5, .int .i32 t6, .bool t7, .slice pa ta.length pc] 37)) c1
    cases he : (elK ks id).isSome with
    | false =>
      have e6 : putRq ks qs i id = 6 := by unfold putRq; rw [he]; rfl
      rw [e6]
      rw [he] at HEL
      clear h hF hr hl hta hlo h0 e0 he e6 c0 c1
      go_enter Try.func31, Try.ntmps31
      go_wp2_with (first
        | (go_at_call 53; refine ((unhide HEL) _ (below_new _ _)).mono ?_; rintro e w1 ⟨rfl, rfl⟩))
      go_ret
      exact ⟨rfl, (unhide HS) _ (below_new _ _)⟩
    | true =>
      rw [he] at HEL
      have e1 : putRq ks qs i id = 1 := by
        unfold putRq at h0 ⊢
        rw [he, if_pos rfl] at h0 ⊢
        by_cases hc : 0 ≤ findQ qs id ∨ i < 0 ∨ (qs.length : Int) < i
        · rw [if_pos hc]
        · rw [if_neg hc] at h0; exact absurd rfl h0
      have hc : 0 ≤ findQ qs id ∨ i < 0 ∨ (qs.length : Int) < i := by
        unfold putRq at e1
        rw [he, if_pos rfl] at e1
        by_cases hc : 0 ≤ findQ qs id ∨ i < 0 ∨ (qs.length : Int) < i
        · exact hc
        · rw [if_neg hc] at e1; cases e1
      rw [e1]
      clear h hF hr hl hta hlo h0 e0 he e1 c0 c1
      generalize findQ qs id = fq at *
      generalize hgl : qs.length = ln at *
      clear hgl
      by_cases h1 : 0 ≤ fq
      · clear hc
        have hd : decide (0 ≤ fq) = true := decide_eq_true h1
        go_enter Try.func31, Try.ntmps31
        go_wp2_with (first
          | (go_at_call 53; refine ((unhide HEL) _ (below_new _ _)).mono ?_; rintro e w1 ⟨rfl, rfl⟩)
          | (go_at_call 10; refine ((unhide HFI) _ (below_new _ _)).mono ?_; rintro e w2 ⟨rfl, rfl⟩))
        go_ret
        exact ⟨rfl, (unhide HS) _ (below_new _ _)⟩
      · have hd : decide (0 ≤ fq) = false := decide_eq_false h1
        by_cases h2 : i < 0
        · clear hc
          have hd2 : decide (i < 0) = true := decide_eq_true h2
          go_enter Try.func31, Try.ntmps31
          go_wp2_with (first
            | (go_at_call 53; refine ((unhide HEL) _ (below_new _ _)).mono ?_; rintro e w1 ⟨rfl, rfl⟩)
            | (go_at_call 10; refine ((unhide HFI) _ (below_new _ _)).mono ?_; rintro e w2 ⟨rfl, rfl⟩))
          go_ret
          exact ⟨rfl, (unhide HS) _ (below_new _ _)⟩
        · have h3 : (ln : Int) < i := (hc.resolve_left h1).resolve_left h2
          have hd2 : decide (i < 0) = false := decide_eq_false h2
          have hd3 : decide ((ln : Int) < i) = true := decide_eq_true h3
          clear hc
          go_enter Try.func31, Try.ntmps31
          go_wp2_with (first
            | (go_at_call 53; refine ((unhide HEL) _ (below_new _ _)).mono ?_; rintro e w1 ⟨rfl, rfl⟩)
            | (go_at_call 10; refine ((unhide HFI) _ (below_new _ _)).mono ?_; rintro e w2 ⟨rfl, rfl⟩))
          go_ret
          exact ⟨rfl, (unhide HS) _ (below_new _ _)⟩
end
end Go.Proofs.Ytabdgmcajndgbaa

namespace Go.Proofs.Ytabdgmcajndgbaa
open Go.RowKit Go.Sort

theorem own_set {w : World} {base g n cap : Nat} {e : TypeId} {xs : List Value} (h : w.ownsRow base e 10 (.slice (some ⟨g, 0, none⟩) n cap) n xs) (j : Nat) (u : Value) : (w.setCell ⟨g, j, none⟩ u).ownsRow base e 10 (.slice (some ⟨g, 0, none⟩) n cap) n (xs.set j u) := by
  obtain ⟨h1, ⟨e0, _⟩ | ⟨g', cap', cur, e1, e2, e3, e4, e5, e6, e7⟩⟩ := h
  · cases e0
  · simp only [Value.slice.injEq, Option.some.injEq, Addr.mk.injEq, and_true, true_and] at e1
    obtain ⟨rfl, rfl⟩ := e1
    refine ⟨by rw [List.length_set]; exact h1, .inr ⟨g, cap, cur.setIfInBounds j u, rfl, e2, heap_setCell_same w g j cur _ u e3, e4, e5, by simpa using e6, ?_⟩⟩
    rw [Array.toList_setIfInBounds, List.take_set, e7]
section
variable {w : World} {base bQ bR : Nat} {v : Value} {qs : List EntQ} {ks : List Key} {F FR : Nat → Prop}
theorem QlM.reset {g cap : Nat} (h : QlM w base bQ bR (.slice (some ⟨g, 0, none⟩) qs.length cap) qs) (hF : ∀ k, F k ↔ footQ bQ (.slice (some ⟨g, 0, none⟩) qs.length cap) k) {n : Nat} {x : EntQ} (hx : qs[n]? = some x) (id : Int) : UpdQ F w (w.setCell ⟨g, n * 10, none⟩ (.int .i64 id)) base bQ bR (qs.take n ++ reQ x id :: qs.drop (n + 1)) := by
  have hlt := (List.getElem?_eq_some_iff.1 hx).1
  have e : qs.take n ++ reQ x id :: qs.drop (n + 1) = qs.set n (reQ x id) := by rw [List.set_eq_take_append_cons_drop, if_pos hlt]
  rw [e]
  have hm : Mod F w (w.setCell ⟨g, n * 10, none⟩ (.int .i64 id)) := Mod.setCell _ _ _ ((hF _).2 (.inr rfl))
  have hgq : g ≠ bQ := fun e => by
    obtain ⟨cur, hc⟩ := ownsRow_block h.own (k := g) rfl
    rw [e, h.box] at hc
    cases hc
  refine ⟨footQ bQ (.slice (some ⟨g, 0, none⟩) qs.length cap), ⟨.slice (some ⟨g, 0, none⟩) qs.length cap, ⟨?_, ?_, fun i y hy => ?_, h.lo⟩, fun _ => Iff.rfl⟩, hm, fun k hk => .inl ((hF k).2 hk)⟩
  · exact ((Mod.setCell (F := fun k => k = g) w ⟨g, n * 10, none⟩ (.int .i64 id) rfl).block bQ (lt_of_block h.box) (fun e => hgq e.symm)).trans h.box
  · have h1 := own_set h.own (n * 10) (.int .i64 id)
    have h2 := flat_set EntQ.cells 10 entQ_len qs n 0 (by omega) x (reQ x id) (.int .i64 id) hx rfl
    rw [Nat.add_zero] at h2
    rw [List.length_set]
    show World.ownsRow _ _ _ _ _ _ (qRow (qs.set n (reQ x id)))
    unfold qRow at h1 ⊢
    rw [← h2]
    exact h1
  · have hL : AttrsIn w y.a y.tok.attrs ∧ ∀ b off, y.a = some ⟨b, off, none⟩ → y.tok.attrs ≠ [] → b < base := by
      by_cases hi : i = n
      · subst hi
        rw [List.getElem?_set_self hlt] at hy
        cases hy
        exact h.attrs i x hx
      · rw [List.getElem?_set_ne (fun e => hi e.symm)] at hy
        exact h.attrs i y hy
    refine ⟨hL.1.modN (fun b off e hne => ?_), hL.2⟩
    have hb2 := hL.2 b off e hne
    have hlt2 := lt_of_block h.box
    have hlo := h.lo
    exact hm.block b (by omega) (fun e => by have := (h.lt ((hF b).1 e)).1; omega)
end
end Go.Proofs.Ytabdgmcajndgbaa

namespace Go.Proofs.Ytabdgmcajndgbaa
open Go.RowKit Go.Sort

section
variable {w : World} {base bQ bR : Nat} {v : Value} {qs : List EntQ} {ks : List Key} {F FR : Nat → Prop}
theorem own_some {w : World} {b : Nat} {t : TypeId} {z : Nat} {v : Value} {n : Nat} {row : List Value} (h : w.ownsRow b t z v n row) (hn : 0 < n) : ∃ g c, v = .slice (some ⟨g, 0, none⟩) n c ∧ ∀ j, w.frozen? ⟨g, j, none⟩ = false := by
  obtain ⟨h1, ⟨e, h0⟩ | ⟨g, cap, cur, e, lo, hb, _⟩⟩ := h
  · omega
  · exact ⟨g, cap, e, fun j => by simp [World.frozen?, hb]⟩
theorem QlM.fresh3 (h : QlM w base bQ bR v qs) (hF : ∀ k, F k ↔ footQ bQ v k) {w2 : World} {v2 : Value} (hb : Below w.heap.size w w2) (hown : w2.ownsRow w.heap.size 46 10 v2 qs.length (qRow qs)) : QlM (w2.setCell ⟨bQ, 1, none⟩ v2) base bQ bR v2 qs ∧ Mod F w (w2.setCell ⟨bQ, 1, none⟩ v2) ∧ (∀ k, footQ bQ v2 k → F k ∨ w.heap.size ≤ k) ∧ w2.frozen? ⟨bQ, 1, none⟩ = false ∧ w2.cell? ⟨bQ, 1, none⟩ = some v := by
  have hlt := lt_of_block h.box
  have hlo := h.lo
  have hbx := (hb.block bQ hlt).trans h.box
  have hne : ∀ k, v2.ownBlock = some k → k ≠ bQ := fun k hk e => by
    have := (hown.lt k hk).1
    omega
  have hm : Mod F w (w2.setCell ⟨bQ, 1, none⟩ v2) := (Mod.of_below hb).trans (Mod.setCell _ _ _ ((hF _).2 (.inl rfl)))
  refine ⟨⟨?_, ?_, fun i y hy => ?_, h.lo⟩, hm, ?_, by simp [World.frozen?, hbx], cell_of_row _ _ 1 _ _ _ hbx⟩
  · have := heap_setCell_same w2 bQ 1 #[.pointer (some ⟨bR, 0, none⟩), v] 43 v2 hbx
    simpa using this
  · have := ownsRow_setCell_other hown (a := ⟨bQ, 1, none⟩) (fun e => hne _ e rfl) v2
    rcases this with ⟨h1, ⟨e, h0⟩ | ⟨g, cap, cur, e, lo, h2⟩⟩
    · exact ⟨h1, .inl ⟨e, h0⟩⟩
    · exact ⟨h1, .inr ⟨g, cap, cur, e, by omega, h2⟩⟩
  · have hL := h.attrs i y hy
    refine ⟨hL.1.modN (fun b off e hne => ?_), hL.2⟩
    have hb2 := hL.2 b off e hne
    exact hm.block b (by omega) (fun e => by have := (h.lt ((hF b).1 e)).1; omega)
  · rintro k (rfl | hk)
    · exact .inl ((hF _).2 (.inl rfl))
    · exact .inr (hown.lt k hk).1
set_option maxRecDepth 100000 in
set_option maxHeartbeats 4000000 in
theorem qswap_in {g cap : Nat} (h : QlM w base bQ bR (.slice (some ⟨g, 0, none⟩) qs.length cap) qs) (hF : ∀ k, F k ↔ footQ bQ (.slice (some ⟨g, 0, none⟩) qs.length cap) k) (hr : RfK w base bR ks FR) (hl : qs.length < 1000000000000) (old id : Int) (he : (elK ks id).isSome = true) (n : Nat) (ho : findQ qs old = (n : Int)) {x : EntQ} (hx : qs[n]? = some x) (hf : ¬ 0 ≤ findQ qs id) : Calls Try.prog 33 #[.pointer (some ⟨bQ, 0, none⟩), .int .i64 old, .int .i64 id] w fun e w' => e = .returned (.int .i64 0) ∧ UpdQ F w w' base bQ bR (qs.take n ++ reQ x id :: qs.drop (n + 1)) := by
  have HEL := hide (rElement_any hr id)
  rw [he] at HEL
  have HFO := hide (qfind_any h (by omega) old)
  have HFI := hide (qfind_any h (by omega) id)
  rw [ho] at HFO
  obtain ⟨c0, c1, f1⟩ := h.cells
  have hnl : n < qs.length := (List.getElem?_eq_some_iff.1 hx).1
  have hcap : qs.length ≤ cap ∧ cap ≤ maxLen := by
    rcases h.own.2 with ⟨e, _⟩ | ⟨g', cap', cur, e, _, _, h1, h2, _⟩
    · cases e
    · cases e; exact ⟨h1, h2⟩
  have hni : ¬ (n : Int) < 0 := by omega
  have hnd : decide ((n : Int) < 0) = false := decide_eq_false hni
  have hfd : decide (0 ≤ findQ qs id) = false := decide_eq_false hf
  have hnz : (n : Int) < (qs.length : Int) := by omega
  have hn0 : (0 : Int) ≤ (n : Int) := by omega
  have HX := hide hx
  have HQ := hide (And.intro h hF)
  have HPOS := hide (show 0 < qs.length by omega)
  have HM : Hid (0 + qs.length ≤ maxLen ∧ (0 + qs.length) * 112 ≤ 140737488355328) := hide (by unfold maxLen; omega)
  have HN1 : Hid (∀ W, Below w.heap.size w W → ∀ (j : Nat) (u : Value), (qRow qs)[j]? = some u → W.cell? ((⟨g, 0, none⟩ : Addr).add j) = some u) := hide (fun W hb j u hu => h.n1 qs.length W hb j u (by rw [List.take_length]; exact hu))
  obtain ⟨ti, hi0, hz0, hz1, hz2⟩ := info_parts Try.info46
  have c1a := cell_kept (below_new w (.cells #[] 46)) c1
  clear h hF hr hl he ho hx hcap hnl f1
  generalize findQ qs id = fq at *
  go_enter Try.func33, Try.ntmps33
  go_wp2_with (first
    | (go_at_call 10; have _x := unhide MK; clear _x; refine (unhide HFI).mono ?_; rintro e w2 ⟨rfl, rfl⟩)
    | (go_at_call 10; refine (unhide HFO).mono ?_; rintro e w1 ⟨rfl, rfl⟩; have MK := hide trivial)
    | (go_at_call 53; refine (unhide HEL).mono ?_; rintro e w1 ⟨rfl, rfl⟩)
    | (at_builtin; go_must (refine wpList_append_own _ (by rfl) _ _ 41 (by rfl) w.heap.size 46 ti _ 10 112 (by kernel_rfl) hi0 hz0 hz1 hz2 rfl (by omega) (.slice (some ⟨w.heap.size, 0, none⟩) 0 0) 0 ([] : List Value) (by rfl) (empty_own w) ⟨g, 0, none⟩ qs.length cap (qRow qs) (by rfl) (qRow_len _) ((unhide HN1) _ (below_new _ _)) (qRow_one _) (unhide HM).1 (unhide HM).2 (below_new _ _).size ?_); intro v2 w2 ho2 hg2 _; rw [Nat.zero_add, List.nil_append] at ho2; obtain ⟨g2, cap2, rfl, _⟩ := own_some ho2 (unhide HPOS); obtain ⟨hq2, hm2, hf2, d1, d2⟩ := (unhide HQ).1.fresh3 (unhide HQ).2 (grown_new hg2) ho2; obtain ⟨gz, capz, hvz, hcz⟩ := hq2.at (unhide HX); simp only [Value.slice.injEq, Option.some.injEq, Addr.mk.injEq, and_true, true_and] at hvz; obtain ⟨rfl, rfl⟩ := hvz; have e0 := hcz 0 (by omega); simp only [EntQ.cells, List.getElem?_cons_zero, Nat.add_zero] at e0; obtain ⟨_, _, hvv, hfz⟩ := own_some hq2.own (unhide HPOS); simp only [Value.slice.injEq, Option.some.injEq, Addr.mk.injEq, and_true, true_and] at hvv; obtain ⟨rfl, rfl⟩ := hvv; have e1 := hfz (n * 10); have e2 := hq2.cells.2.1; have HU := hide (UpdQ.chain hm2 hf2 (hq2.reset (fun k => Iff.rfl) (unhide HX) id)); clear ho2 hg2 hq2 hm2 hf2 hcz hfz))
  go_ret
  exact ⟨rfl, unhide HU⟩
set_option maxHeartbeats 4000000 in
theorem qswap_any (h : QlM w base bQ bR v qs) (hF : ∀ k, F k ↔ footQ bQ v k) (hr : RfK w base bR ks FR) (hl : qs.length < 1000000000000) (old id : Int) : Calls Try.prog 33 #[.pointer (some ⟨bQ, 0, none⟩), .int .i64 old, .int .i64 id] w fun e w' => e = .returned (.int .i64 (swRq ks qs old id)) ∧ UpdQ F w w' base bQ bR (swQ ks qs old id) := by
  by_cases h0 : swRq ks qs old id = 0
  · obtain ⟨h1, h2, h3⟩ := sw_zero h0
    obtain ⟨_, x, hx, _⟩ := findQ_at h2
    unfold swQ
    rw [h0, if_pos rfl]
    obtain ⟨n, hn⟩ : ∃ n : Nat, findQ qs old = (n : Int) := ⟨(findQ qs old).toNat, by omega⟩
    rw [hn] at hx ⊢
    rw [show ((n : Int)).toNat = n from rfl] at hx ⊢
    have g2 : qs.getD n markQ = x := by rw [List.getD_eq_getElem?_getD, hx]; rfl
    rw [g2]
    rcases h.val with ⟨_, rfl⟩ | ⟨g, cap, rfl⟩
    · simp at hx
    · exact qswap_in h hF hr hl old id h1 n hn hx h3
  · have e0 : swQ ks qs old id = qs := by unfold swQ; rw [if_neg h0]
    rw [e0]
    have HS := hide (h.same hF (Below.refl _ w))
    have HEL := hide (rElement_any hr id)
    have HFO := hide (qfind_any h (by omega) old)
    have HFI := hide (qfind_any h (by omega) id)
    have c0 := h.cells.1
    by_cases h1 : (elK ks id).isSome = true
    · by_cases h2 : 0 ≤ findQ qs old
      · have e1 : swRq ks qs old id = 1 ∧ 0 ≤ findQ qs id := by
          unfold swRq at h0 ⊢
          rw [if_pos ⟨h1, h2⟩] at h0 ⊢
          by_cases h3 : 0 ≤ findQ qs id
          · rw [if_pos h3]; exact ⟨rfl, h3⟩
          · rw [if_neg h3] at h0; exact absurd rfl h0
        obtain ⟨e1, h3⟩ := e1
        rw [e1]
        rw [h1] at HEL
        have hd : decide (findQ qs old < 0) = false := decide_eq_false (by omega)
        have hd2 : ¬ findQ qs old < 0 := by omega
        have hd3 : decide (0 ≤ findQ qs id) = true := decide_eq_true h3
        clear h hF hr hl h0 e0 e1 h1
        generalize findQ qs id = fq at *
        generalize findQ qs old = fo at *
        go_enter Try.func33, Try.ntmps33
        go_wp2_with (first
          | (go_at_call 10; have _x := unhide MK; clear _x; refine (unhide HFI).mono ?_; rintro e w2 ⟨rfl, rfl⟩)
          | (go_at_call 10; refine (unhide HFO).mono ?_; rintro e w1 ⟨rfl, rfl⟩; have MK := hide trivial)
          | (go_at_call 53; refine (unhide HEL).mono ?_; rintro e w1 ⟨rfl, rfl⟩))
        go_ret
        exact ⟨rfl, unhide HS⟩
      · have e1 : swRq ks qs old id = 6 := by unfold swRq; rw [if_neg (fun e => h2 e.2)]
        rw [e1]
        rw [h1] at HEL
        have hd : decide (findQ qs old < 0) = true := decide_eq_true (by omega)
        have hd2 : findQ qs old < 0 := by omega
        clear h hF hr hl h0 e0 e1 h1 h2 HFI
        generalize findQ qs old = fo at *
        go_enter Try.func33, Try.ntmps33
        go_wp2_with (first
          | (go_at_call 10; refine (unhide HFO).mono ?_; rintro e w1 ⟨rfl, rfl⟩)
          | (go_at_call 53; refine (unhide HEL).mono ?_; rintro e w1 ⟨rfl, rfl⟩))
        go_ret
        exact ⟨rfl, unhide HS⟩
    · have e1 : swRq ks qs old id = 6 := by unfold swRq; rw [if_neg (fun e => h1 e.1)]
      rw [e1]
      have h4 : (elK ks id).isSome = false := by simpa using h1
      rw [h4] at HEL
      clear h hF hr hl h0 e0 e1 h1 h4 HFI
      generalize findQ qs old = fo at *
      go_enter Try.func33, Try.ntmps33
      go_wp2_with (first
        | (go_at_call 10; refine (unhide HFO).mono ?_; rintro e w1 ⟨rfl, rfl⟩)
        | (go_at_call 53; refine (unhide HEL).mono ?_; rintro e w1 ⟨rfl, rfl⟩))
      go_ret
      exact ⟨rfl, unhide HS⟩
end
end Go.Proofs.Ytabdgmcajndgbaa
