/-
  The document's Mark, Unmark, Peek.
-/
import Derived.Test.YtlhebbhpcepfhaaRa
namespace Go.Proofs.Ytlhebbhpcepfhaa
open Go.RowKit

theorem Try.info3 : (Try.prog.info? 3).map (fun i => (i.zero, i.size, i.bytes)) = some (some (.int .i64 0), 1, 8) := by kernel_rfl

def markR (r : RefM) : Int × RefM := if r.M.length ≤ 20 then (0, { r with M := r.M ++ [0] }) else (9, r)
def unmarkR (r : RefM) : Int × RefM := if r.M.length = 0 then (5, r) else (0, { r with M := r.M.take (r.M.length - 1) })
def lastR (r : RefM) : Int := r.M[r.M.length - 1]?.getD 0
def peekR (r : RefM) : Int × Bool := if r.M.length ≠ 0 ∧ lastR r = 0 then (0, false) else match r.L with
  | x :: _ => (x, true)
  | [] => if r.over = true ∧ r.M.length = 0 then (-1, true) else (0, false)

section
variable {w : World} {base bW : Nat} {r : RefM} {F : Nat → Prop}

theorem row_form {w : World} {base n : Nat} {mv : Value} {xs : List Value} (h : w.ownsRow base 3 1 mv n xs) : ∃ ga cap, mv = .slice ga n cap ∧ n ≤ cap ∧ cap ≤ maxLen ∧ (0 < n → ∃ g, ga = some ⟨g, 0, none⟩) := by
  rcases h.2 with ⟨rfl, rfl⟩ | ⟨g, cap, cur, rfl, hbb, hgg, hc, hm, _⟩
  · exact ⟨none, 0, rfl, Nat.le_refl _, Nat.zero_le _, fun h => by omega⟩
  · exact ⟨_, cap, rfl, hc, hm, fun _ => ⟨g, rfl⟩⟩

set_option maxHeartbeats 1000000 in
theorem refMark_s (h : RefS w base bW r F) : Calls Try.prog 29 #[.pointer (some ⟨bW, 0, none⟩)] w fun e w' => e = .returned (.int .i64 (markR r).1) ∧ UpdR F w w' base bW (markR r).2 := by
  have hS := h
  obtain ⟨p, mv, h, e, hF⟩ := h
  obtain ⟨ga, cap, rfl, hc1, hc2, _⟩ := row_form h.row
  obtain ⟨h0, h1, h2, h3, h4, h5⟩ := h.cells
  have f1 := h5 1
  have hlt := h.lt
  have hne := h.ne.2.1
  have hb : base ≤ w.heap.size := Nat.le_trans h.lo (Nat.le_of_lt h.lt)
  unfold markR
  by_cases hm : r.M.length ≤ 20
  · rw [if_pos hm]
    obtain ⟨i0, hi0, hz0, hz1, hz2⟩ := info_parts Try.info3
    have hz : ¬ (20 : Int) < (r.M.length : Int) := by omega
    have HR : Hid (∀ o, (w.alloc o).ownsRow base 3 1 (.slice ga r.M.length cap) r.M.length (intsV r.M)) := hide (fun o => ownsRow_kept h.row (fun k hk => Below.heap_alloc _ _ _ (h.row.lt k hk).2))
    have H := hide h
    have HF := hide hF
    have HE := hide e
    have HM := hide hm
    have HB := hide hb
    clear h hF e h5 hS hc1 hc2 hm hb
    go_enter Try.func29, Try.ntmps29
    go_wp2_with (at_builtin; go_must (refine wpList_append_lies _ (by rfl) _ _ 32 (by rfl) base 3 i0 _ 1 8 Try.underlying32 hi0 hz0 hz1 hz2 rfl (by omega) (.slice ga r.M.length cap) r.M.length (intsV r.M) (by rfl) (by exact (unhide HR) _) ⟨w.heap.size, 0, none⟩ 1 1 [.int .i64 0] (by rfl) (by rfl) (by exact World.news_of_block (heap_alloc_new w _)) (by simp [Value.oneCell']) (by omega) (by have := unhide HM; unfold maxLen; omega) (by have := unhide HM; omega) (by simp; have := unhide HB; omega) (w.heap.size + 1) (by simp) ?_); intro g cap' w1 hown1 hgrow hat hl1; have HMD := hide (show Mod (fun k => (Value.slice ga r.M.length cap).ownBlock = some k) w w1 from (Mod.of_below ((Below.refl _ w).alloc (Nat.le_refl _) _)).trans (Mod.grown hgrow (fun k hk => hk))); have hc1 : w1.cell? ⟨bW, 1, none⟩ = some (.slice ga r.M.length cap) := (World.cell?_of_block ((unhide HMD).block bW hlt hne)).trans h1; have hfz1 : w1.frozen? ⟨bW, 1, none⟩ = false := (World.frozen?_of_block ((unhide HMD).block bW hlt hne)).trans f1; have HO := hide hown1; have HA := hide hat; clear hown1 hgrow hat hl1)
    go_ret
    have e1 : intsV r.M ++ [Value.int .i64 0] = intsV (r.M ++ [0]) := by simp [intsV]
    have R := (unhide H).setM (mv' := .slice (some ⟨g, 0, none⟩) (r.M.length + 1) cap') (M' := r.M ++ [0]) (unhide HMD) (by rw [List.length_append, ← e1]; exact unhide HO)
    have fb : F bW := ((unhide HF) bW).2 (.inl rfl)
    refine ⟨rfl, footR bW p (.slice (some ⟨g, 0, none⟩) (r.M.length + 1) cap'), ⟨p, _, R, unhide HE, fun _ => Iff.rfl⟩, ?_, ?_⟩
    · exact ((unhide HMD).mono (fun k _ hk => ((unhide HF) k).2 (.inr (.inr hk)))).trans (Mod.setCell _ _ _ fb)
    · rintro k (rfl | hk | hk)
      · exact .inl fb
      · exact .inl (((unhide HF) k).2 (.inr (.inl hk)))
      · simp only [Value.ownBlock, Option.some.injEq] at hk
        subst hk
        rcases unhide HA with h | h
        · exact .inl (((unhide HF) _).2 (.inr (.inr h)))
        · exact .inr (by omega)
  · rw [if_neg hm]
    have hz : (20 : Int) < (r.M.length : Int) := by omega
    have HS := hide hS
    clear h hF e h5 hS hc1 hc2 hm
    go_enter Try.func29, Try.ntmps29
    go_wp2
    go_ret
    exact ⟨rfl, (unhide HS).upd (Below.refl _ _)⟩

set_option maxHeartbeats 1000000 in
theorem refUnmark_s (h : RefS w base bW r F) (hm : r.M.length ≤ 22) : Calls Try.prog 30 #[.pointer (some ⟨bW, 0, none⟩)] w fun e w' => e = .returned (.int .i64 (unmarkR r).1) ∧ UpdR F w w' base bW (unmarkR r).2 := by
  have hS := h
  obtain ⟨p, mv, h, e, hF⟩ := h
  obtain ⟨ga, cap, rfl, hc1, hc2, hg⟩ := row_form h.row
  obtain ⟨h0, h1, h2, h3, h4, h5⟩ := h.cells
  have f1 := h5 1
  unfold unmarkR
  by_cases hz : r.M.length = 0
  · rw [if_pos hz]
    have hz' : ((r.M.length : Int) == 0) = true := by rw [beq_iff_eq]; omega
    have HS := hide hS
    clear h hF e h5 hS hc1 hc2 hm hz hg
    go_enter Try.func30, Try.ntmps30
    go_wp2
    go_ret
    exact ⟨rfl, (unhide HS).upd (Below.refl _ _)⟩
  · rw [if_neg hz]
    obtain ⟨g, rfl⟩ := hg (by omega)
    have hz' : ((r.M.length : Int) == 0) = false := by rw [beq_eq_false_iff_ne]; omega
    obtain ⟨n, hn⟩ : ∃ n, r.M.length = n + 1 := ⟨r.M.length - 1, by omega⟩
    have i1 : (1 : Int) ≤ (r.M.length : Int) := by omega
    have i2 : (r.M.length : Int) ≤ 22 := by omega
    have i3 : IntKind.i64.wrap ((r.M.length : Int) - 1) = (r.M.length : Int) - 1 := by rw [IntKind.wrap_i64]; omega
    have i4 : ((r.M.length : Int) - 1).toNat = r.M.length - 1 := by omega
    have i5 : (0 : Int) ≤ (r.M.length : Int) - 1 := by omega
    have i6 : (r.M.length : Int) - 1 ≤ (cap : Int) := by omega
    have H := hide h
    have HF := hide hF
    have HE := hide e
    have HN := hide hn
    clear h hF e h5 hS hc1 hm hz hc2 hn
    go_enter Try.func30, Try.ntmps30
    go_wp2_with fail
    go_region
    all_goals (try go_wp2)
    all_goals go_ret
    all_goals
      have B1 : Below w.heap.size w w.drew := (Below.refl _ w).drew
      have hl : (r.M.take (r.M.length - 1)).length = r.M.length - 1 := by rw [List.length_take]; omega
      have hrow := row_cut ((unhide H).below B1).row (r.M.length - 1) (by omega)
      have e1 : (intsV r.M).take (r.M.length - 1) = intsV (r.M.take (r.M.length - 1)) := by simp [intsV, List.map_take]
      rw [e1] at hrow
      have R := ((unhide H).below B1).setM (w1 := w.drew) (mv' := .slice (some ⟨g, 0, none⟩) (r.M.length - 1) cap) (M' := r.M.take (r.M.length - 1)) (Mod.refl _ _) (by rw [hl]; exact hrow)
      have fb : F bW := ((unhide HF) bW).2 (.inl rfl)
      refine ⟨rfl, F, ⟨p, _, R, unhide HE, unhide HF⟩, (Mod.of_below B1).trans (Mod.setCell _ _ _ fb), fun _ hk => .inl hk⟩

set_option maxHeartbeats 2000000 in
theorem refPeek_s (h : RefS w base bW r F) (hm : r.M.length ≤ 22) : Calls Try.prog 33 #[.pointer (some ⟨bW, 0, none⟩)] w fun e w' => e = .returned (.tuple #[.int .i32 (peekR r).1, .bool (peekR r).2]) ∧ ∃ n, w' = w.drewN n := by
  obtain ⟨p, mv, h, e, hF⟩ := h
  obtain ⟨ga, cap, rfl, hc1, hc2, hg⟩ := row_form h.row
  obtain ⟨h0, h1, h2, h3, h4, h5⟩ := h.cells
  have hru := h.part.runes
  obtain ⟨pa, pc, xs⟩ := p
  simp only at e hru
  subst e
  unfold PartM.val at h0
  simp only at h0
  have HL : Hid (∀ v, r.M[r.M.length - 1]? = some v → ∃ g, ga = some ⟨g, 0, none⟩ ∧ w.cell? ⟨g, r.M.length - 1, none⟩ = some (.int .i64 v)) := hide (by
    intro v hv
    have hlt := (List.getElem?_eq_some_iff.1 hv).1
    obtain ⟨g, rfl⟩ := hg (by omega)
    refine ⟨g, rfl, ?_⟩
    rw [h.row.cellAt (r.M.length - 1) (by omega)]
    simp [intsV, hv])
  clear h h5 hF hc1 hc2 hg
  unfold peekR lastR
  obtain ⟨N, hN⟩ : ∃ N, r.M.length = N := ⟨_, rfl⟩
  rw [hN] at h1 hm HL ⊢
  by_cases hz : N = 0
  · rw [if_neg (by simp [hz])]
    have hz0 := hz
    subst hz
    cases hx : r.L with
    | nil =>
      rw [hx] at h0
      have hl : ¬ (0 : Int) < (([] : List Int).length : Int) := by simp
      cases ho : r.over with
      | true =>
        rw [if_pos ⟨rfl, rfl⟩]
        rw [ho] at h3
        clear hz0 HL hru hN
        go_enter Try.func33, Try.ntmps33
        go_wp2_with fail
        go_quiet (fail)
        go_wp2
        go_ret2
        exact ⟨rfl, _, rfl⟩
      | false =>
        rw [if_neg (by simp)]
        rw [ho] at h3
        clear hz0 HL hru hN
        go_enter Try.func33, Try.ntmps33
        go_wp2_with fail
        go_quiet (fail)
        go_wp2
        go_ret2
        exact ⟨rfl, _, rfl⟩
    | cons x xs =>
      rw [hx] at h0 hru
      obtain ⟨b, off, ha, hc⟩ := hru 0 x rfl
      simp only [Nat.add_zero] at hc
      subst ha
      have hl : (0 : Int) < ((x :: xs).length : Int) := by simp only [List.length_cons]; omega
      clear hz0 HL hru hN hx
      go_enter Try.func33, Try.ntmps33
      go_wp2_with fail
      go_quiet (fail)
      go_wp2
      go_ret2
      exact ⟨rfl, _, rfl⟩
  · have d1 : (0 : Int) < (N : Int) := by omega
    have d2 : 0 < N := by omega
    have d3 : decide (0 < N) = true := decide_eq_true d2
    have d0 : decide ((0 : Int) < (N : Int)) = true := by simpa using d1
    have hz' : ((N : Int) == 0) = false := by rw [beq_eq_false_iff_ne]; omega
    obtain ⟨v, hv⟩ : ∃ v, r.M[N - 1]? = some v := ⟨_, List.getElem?_eq_getElem (by omega)⟩
    obtain ⟨g, rfl, hcg⟩ := (unhide HL) v hv
    rw [hv]
    simp only [Option.getD_some]
    have i1 : (1 : Int) ≤ (N : Int) := by omega
    have i2 : (N : Int) ≤ 22 := by omega
    have i3 : IntKind.i64.wrap ((N : Int) - 1) = (N : Int) - 1 := by rw [IntKind.wrap_i64]; omega
    have i4 : ((N : Int) - 1).toNat = N - 1 := by omega
    have i5 : (0 : Int) ≤ (N : Int) - 1 := by omega
    have i6 : (N : Int) - 1 < (N : Int) := by omega
    by_cases hv0 : v = 0
    · rw [if_pos ⟨hz, hv0⟩]
      subst hv0
      clear hz HL hru hv hm hN
      go_enter Try.func33, Try.ntmps33
      go_wp2_with fail
      go_quiet (fail)
      go_wp2
      go_ret2
      exact ⟨rfl, _, rfl⟩
    · rw [if_neg (fun h => hv0 h.2)]
      have hvb : (v == 0) = false := by simpa using hv0
      cases hx : r.L with
      | nil =>
        rw [hx] at h0
        have hl : ¬ (0 : Int) < (([] : List Int).length : Int) := by simp
        rw [if_neg (fun h => hz h.2)]
        generalize r.over = ov at h3
        clear hz HL hru hv hm hN hv0 hx
        cases ov
        · go_enter Try.func33, Try.ntmps33
          go_wp2_with fail
          go_quiet (fail)
          go_wp2
          go_ret2
          exact ⟨rfl, _, rfl⟩
        · go_enter Try.func33, Try.ntmps33
          go_wp2_with fail
          go_quiet (fail)
          go_wp2
          go_ret2
          exact ⟨rfl, _, rfl⟩
      | cons x xs =>
        rw [hx] at h0 hru
        obtain ⟨b, off, ha, hc⟩ := hru 0 x rfl
        simp only [Nat.add_zero] at hc
        subst ha
        have hl : (0 : Int) < ((x :: xs).length : Int) := by simp only [List.length_cons]; omega
        clear hz HL hru hv hm hN hv0 hx
        go_enter Try.func33, Try.ntmps33
        go_wp2_with fail
        go_quiet (fail)
        go_wp2
        go_ret2
        exact ⟨rfl, _, rfl⟩
end
end Go.Proofs.Ytlhebbhpcepfhaa
