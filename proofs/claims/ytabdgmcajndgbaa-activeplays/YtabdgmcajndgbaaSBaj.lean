/-
  Package active: a row of entries: the first ones left, one taken out, the last marker.
-/
import Derived.Test.YtabdgmcajndgbaaSBai
import Derived.Lib.SliceRun
namespace Go.Proofs.Ytabdgmcajndgbaa
open Go.RowKit Go.Sort

/-- The places from the n-th on are cleared. -/
theorem clear_ptrs {w : World} {g : Nat} {cur : List Value} (hg : w.heap[g]? = some (.cells cur.toArray 78 (0, 0))) (n m cp : Nat) (hm : 0 < m) (hf : n + m ≤ cur.length) (ty : TypeId) :
    ∃ w', (Builtin.clear_ #[61] ty #[.slice (some ⟨g, n, none⟩) m cp]).run Try.prog w = .ok (.tuple #[]) w' ∧ (∃ cur' : List Value, w'.heap[g]? = some (.cells cur'.toArray 78 (0, 0)) ∧ cur'.length = cur.length ∧ cur'.take n = cur.take n) ∧ Mod (fun k => k = g) w w' := by
  have hc : ∀ j, j < m → (w.cell? ⟨g, n + j, none⟩).isSome = true := by
    intro j hj
    rw [cell_of_row w g _ _ _ _ hg, List.getElem?_toArray, List.getElem?_eq_getElem (by omega)]; rfl
  have hr := Lib.run_clear_slice (P := Try.prog) w 61 78 ty (.pointer none) Try.underlying61 Try.zeroValue78 rfl rfl g n m cp hm hc (fun j _ => free_row hg _)
  refine ⟨_, hr, ?_, run_mod (F := fun k => k = g) g rfl _ _ _⟩
  obtain ⟨cur', h1, h2⟩ := run_block g (List.replicate m (.pointer none)) n w _ _ hg
  refine ⟨cur'.toList, h1, by simpa using h2, ?_⟩
  apply List.ext_getElem?
  intro j
  rw [List.getElem?_take, List.getElem?_take]
  by_cases hj : j < n
  · rw [if_pos hj, if_pos hj]
    have e1 := cell_of_row _ g j _ _ _ h1
    rw [World.cell?_setCells_out g _ _ _ _ (fun _ _ => .inl (by simp; omega)), cell_of_row w g _ _ _ _ hg, List.getElem?_toArray] at e1
    simpa using e1.symm
  · rw [if_neg hj, if_neg hj]

section
variable {w : World} {base bW : Nat} {F : Nat → Prop} {v : Value} {ps : List Nat} {es : List EntM}

theorem take_sub {l : List Nat} (h : l.Nodup) (n : Nat) : (l.take n).Nodup := h.sublist (List.take_sublist _ _)
theorem ptrs_take (ps : List Nat) (n : Nat) : (ptrs ps).take n = ptrs (ps.take n) := by simp [ptrs]

theorem clear_none (w : World) (ty : TypeId) (c : Nat) : (Builtin.clear_ #[61] ty #[.slice none 0 c]).run Try.prog w = .ok (.tuple #[]) w := by
  simp [Builtin.clear_, run_underlying Try.underlying61]
theorem clear_zero (w : World) (ty : TypeId) (a : Addr) (c : Nat) : (Builtin.clear_ #[61] ty #[.slice (some a) 0 c]).run Try.prog w = .ok (.tuple #[]) w := by
  simp [Builtin.clear_, run_underlying Try.underlying61]

set_option maxRecDepth 10000 in
set_option maxHeartbeats 2000000 in
/-- A row of N places, of which the first n are left. -/
theorem rcut_raw {g N cap : Nat} {cur : List Value} (hbox : w.heap[bW]? = some (.cells #[.slice (some ⟨g, 0, none⟩) N cap] 63 (0, 0))) (hg : w.heap[g]? = some (.cells cur.toArray 78 (0, 0))) (hcl : cur.length = cap) (hnc : N ≤ cap) (hcm : cap ≤ maxLen) (n : Nat) (hn : n ≤ N) :
    Calls Try.prog 58 #[.pointer (some ⟨bW, 0, none⟩), .int .i64 n] w fun e w' => e = .returned (.tuple #[]) ∧ ∃ cur' : List Value, w'.heap[g]? = some (.cells cur'.toArray 78 (0, 0)) ∧ cur'.length = cap ∧ cur'.take n = cur.take n ∧ w'.heap[bW]? = some (.cells #[.slice (some ⟨g, 0, none⟩) n cap] 63 (0, 0)) ∧ Mod (fun k => k = bW ∨ k = g) w w' := by
  have hc := cell_of_one hbox
  have hf := free_of_one hbox
  have hgW : g ≠ bW := by
    intro e
    subst e
    rw [hbox] at hg
    cases hg
  have hnz : (n : Int) ≤ (N : Int) := by omega
  have hn0 : (0 : Int) ≤ (n : Int) := by omega
  have hcz : (N : Int) ≤ (cap : Int) := by omega
  have hcmz : (cap : Int) ≤ 9223372036854775807 := by unfold maxLen at hcm; omega
  have hncz : (n : Int) ≤ (cap : Int) := by omega
  have hcell : ∀ (w1 : World) (cur' : List Value), w1.heap[g]? = some (.cells cur'.toArray 78 (0, 0)) → cur'.length = cur.length → cur'.take n = cur.take n → Mod (fun k => k = g) w w1 →
      w1.cell? ⟨bW, 0, none⟩ = some (.slice (some ⟨g, 0, none⟩) N cap) ∧ w1.frozen? ⟨bW, 0, none⟩ = false ∧ ∃ cur2 : List Value, (w1.setCell ⟨bW, 0, none⟩ (.slice (some ⟨g, 0, none⟩) n cap)).heap[g]? = some (.cells cur2.toArray 78 (0, 0)) ∧ cur2.length = cap ∧ cur2.take n = cur.take n ∧ (w1.setCell ⟨bW, 0, none⟩ (.slice (some ⟨g, 0, none⟩) n cap)).heap[bW]? = some (.cells #[.slice (some ⟨g, 0, none⟩) n cap] 63 (0, 0)) ∧ Mod (fun k => k = bW ∨ k = g) w (w1.setCell ⟨bW, 0, none⟩ (.slice (some ⟨g, 0, none⟩) n cap)) := by
    intro w1 cur' h1 h2 h3 h4
    have b1 : w1.heap[bW]? = _ := (h4.block bW (lt_of_block hbox) (fun e => hgW e.symm)).trans hbox
    exact ⟨cell_of_one b1, free_of_one b1, cur', (Below.heap_setCell _ _ _ _ hgW).trans h1, h2.trans hcl, h3, heap_setCell_same w1 bW 0 _ _ _ b1, (h4.mono (fun k _ e => .inr e)).trans (Mod.setCell _ _ _ (.inl rfl))⟩
  have HK := hide hcell
  have HG := hide hg
  have HCL := hide hcl
  clear hcell hg hcl hcm hbox
  by_cases he : n = N
  · subst he
    obtain ⟨c1, f1, u1⟩ := (unhide HK) w cur (unhide HG) rfl rfl (Mod.refl _ _)
    have HU := hide u1
    clear u1
    by_cases hcp : cap = n
    · subst hcp
      have hz := clear_zero w 0 ⟨g, 0, none⟩ 0
      go_enter Try.func58, Try.ntmps58
      go_wp2
      go_end0
      exact ⟨rfl, unhide HU⟩
    · have hz := clear_zero w 0 ⟨g, n, none⟩ (cap - n)
      go_enter Try.func58, Try.ntmps58
      go_wp2
      go_end0
      exact ⟨rfl, unhide HU⟩
  · have hcp : ¬ cap = n := by omega
    obtain ⟨w1, hrun, ⟨cur', h1, h2, h3⟩, h4⟩ := clear_ptrs (unhide HG) n (N - n) (cap - n) (by omega) (by have := unhide HCL; omega) 0
    obtain ⟨c1, f1, u1⟩ := (unhide HK) w1 cur' h1 h2 h3 h4
    have HU := hide u1
    clear u1 h1 h2 h3 h4
    go_enter Try.func58, Try.ntmps58
    go_wp2
    go_end0
    exact ⟨rfl, unhide HU⟩

set_option maxRecDepth 10000 in
set_option maxHeartbeats 2000000 in
theorem rcut_any (h : RowM w base bW F v ps es) (n : Nat) (hn : n ≤ es.length) :
    Calls Try.prog 58 #[.pointer (some ⟨bW, 0, none⟩), .int .i64 n] w fun e w' => e = .returned (.tuple #[]) ∧ UpdW F w w' base bW (es.take n) := by
  have hc := h.cell
  have hf := h.free
  have hlp := h.len
  rcases h.val with ⟨e, rfl⟩ | ⟨g, cap, e⟩
  · subst e
    obtain rfl : es = [] := List.eq_nil_of_length_eq_zero (by simpa using hlp.symm)
    obtain rfl : n = 0 := by simpa using hn
    have HS : Hid (∀ W, W.heap[bW]? = some (.cells #[.slice none 0 0] 63 (0, 0)) → Mod (fun k => k = bW) w W → UpdW F w W base bW []) := hide (fun W hb hm => by
      have h9 : RowM W base bW F (.slice none 0 0) [] [] := ⟨hb, World.ownsRow_nil _ _ _ _, rfl, List.nodup_nil, fun i b x e => by simp at e, h.fb, fun k e => by simp [Value.ownBlock] at e, fun k hk => ⟨(h.lt k hk).1, Nat.lt_of_lt_of_le (h.lt k hk).2 hm.size⟩⟩
      exact ⟨F, ⟨_, _, h9⟩, hm.mono (fun k _ e => by rw [e]; exact h.fb), fun k hk => .inl hk⟩)
    have hb := h.box
    have HB := hide hb
    clear h hb hn hlp
    have hz := clear_none w 0 0
    go_enter Try.func58, Try.ntmps58
    go_wp2
    go_end0
    exact ⟨rfl, (unhide HS) _ (heap_setCell_same _ _ _ _ _ _ (unhide HB)) (Mod.setCell _ _ _ rfl)⟩
  · subst e
    have hnp : n ≤ ps.length := by omega
    obtain ⟨cur, hg, hcl, hnc, hcm, htk, hbg⟩ := own_cur h.own
    refine (rcut_raw h.box hg hcl hnc hcm n hnp).mono ?_
    rintro e w' ⟨rfl, cur', h1, h2, h3, h4, h5⟩
    refine ⟨rfl, h.done (g := g) (n := n) (cap := cap) (ps5 := ps.take n) cur' (.inl rfl) hbg h4 h1 h2 (by omega) hcm ?_ (by simp; omega) (h5.mono (fun k _ e => e.imp id .inl)) (by simp [hlp]) (take_sub h.nodup n) ?_⟩
    · rw [h3]
      have : cur.take n = (cur.take ps.length).take n := by rw [List.take_take, Nat.min_eq_left hnp]
      rw [this, htk, ptrs_take]
    · intro j b y hb hy
      rw [List.getElem?_take] at hb hy
      split at hb
      · rename_i hj
        rw [if_pos hj] at hy
        exact h.ents j b y hb hy
      · cases hb

theorem del_get {α : Type} (l : List α) (i j : Nat) : (l.take i ++ l.drop (i + 1))[j]? = if j < i then l[j]? else l[j + 1]? := by
  by_cases hi : i ≤ l.length
  · by_cases h1 : j < i
    · rw [if_pos h1, List.getElem?_append_left (by simp; omega), List.getElem?_take, if_pos h1]
    · rw [if_neg h1, List.getElem?_append_right (by simp; omega), List.length_take, Nat.min_eq_left hi, List.getElem?_drop]
      congr 1
      omega
  · rw [List.take_of_length_le (by omega), List.drop_of_length_le (by omega), List.append_nil]
    split
    · rfl
    · rw [List.getElem?_eq_none (by omega), List.getElem?_eq_none (by omega)]
theorem del_list {cur : List Value} {ps : List Nat} {i : Nat} (hc : cur.take ps.length = ptrs ps) (hi : i < ps.length) (hl : ps.length ≤ cur.length) :
    (splice cur i (ptrs (ps.drop (i + 1)))).take (ps.length - 1) = ptrs (ps.take i ++ ps.drop (i + 1)) := by
  have e1 : cur.take i = ptrs (ps.take i) := by
    have : cur.take i = (cur.take ps.length).take i := by rw [List.take_take, Nat.min_eq_left (by omega)]
    rw [this, hc, ptrs_take]
  have e3 : (ptrs (ps.drop (i + 1))).length = ps.length - (i + 1) := by rw [ptrs_len, List.length_drop]
  unfold splice
  have e5 : (cur.take i).length = i := by simp; omega
  have e4 : (ptrs (ps.drop (i + 1)) ++ cur.drop (i + (ptrs (ps.drop (i + 1))).length)).take (ps.length - 1 - i) = ptrs (ps.drop (i + 1)) := by
    rw [List.take_append_of_le_length (by omega), List.take_of_length_le (by omega)]
  rw [List.take_append, List.take_of_length_le (l := cur.take i) (by omega), e5, e4, e1]
  simp [ptrs]

set_option maxHeartbeats 2000000 in
theorem rremove_any (h : RowM w base bW F v ps es) (i : Nat) (hi : i < es.length) (hl : es.length < 1000000000000) :
    Calls Try.prog 51 #[.pointer (some ⟨bW, 0, none⟩), .int .i64 i] w fun e w' => e = .returned (.tuple #[]) ∧ UpdW F w w' base bW (es.take i ++ es.drop (i + 1)) := by
  have hlp := h.len
  have hip : i < ps.length := by omega
  rcases h.val with ⟨_, e⟩ | ⟨g, cap, e⟩
  · subst e; simp at hip
  subst e
  obtain ⟨cur, hg, hcl, hnc, hcm, htk, hbg⟩ := own_cur h.own
  have c2 := h.cell
  have hgW : g ≠ bW := fun e => h.vne (by rw [e]; rfl)
  have hfin : ∀ w4, Hid (w4.heap[g]? = some (.cells (splice cur i (ptrs (ps.drop (i + 1)))).toArray 78 (0, 0))) → w.drew.grownBy w4 (some g) →
      w4.cell? ⟨bW, 0, none⟩ = some (.slice (some ⟨g, 0, none⟩) ps.length cap) ∧ ∀ z : Int, z = (ps.length : Int) - 1 → Calls Try.prog 58 #[.pointer (some ⟨bW, 0, none⟩), .int .i64 z] w4 fun e w' => e = .returned (.tuple #[]) ∧ UpdW F w w' base bW (es.take i ++ es.drop (i + 1)) := by
    intro w4 hg4 hb4
    have hg4 : w4.heap[g]? = some (.cells (splice cur i (ptrs (ps.drop (i + 1)))).toArray 78 (0, 0)) := hg4
    have hsl : (splice cur i (ptrs (ps.drop (i + 1)))).length = cap := by rw [length_splice _ _ _ (by rw [ptrs_len, List.length_drop]; omega)]; exact hcl
    have b4 : w4.heap[bW]? = _ := (hb4.block bW (lt_of_block h.box) (fun e => hgW (by cases e; rfl))).trans h.box
    refine ⟨cell_of_one b4, ?_⟩
    rintro z rfl
    have hcut := rcut_raw (n := ps.length - 1) b4 hg4 hsl hnc hcm (by omega)
    rw [show ((ps.length - 1 : Nat) : Int) = (ps.length : Int) - 1 by omega] at hcut
    refine hcut.mono ?_
    rintro e w' ⟨rfl, cur', h1, h2, h3, h4, h5⟩
    have M : Mod (fun k => k = bW ∨ k = g) w w' := ((mod_drew w).trans (Mod.grown hb4 (fun k hk => .inr (by cases hk; rfl)))).trans h5
    refine ⟨rfl, h.done (g := g) (n := ps.length - 1) (cap := cap) (ps5 := ps.take i ++ ps.drop (i + 1)) cur' (.inl rfl) hbg h4 h1 h2 (by omega) hcm ?_ (by simp; omega) (M.mono (fun k _ e => e.imp id .inl)) (by simp; omega) ?_ ?_⟩
    · rw [h3]; exact del_list htk hip (by omega)
    · refine h.nodup.sublist ?_
      have := List.Sublist.append (List.Sublist.refl (ps.take i)) (List.drop_sublist_drop_left ps (Nat.le_succ i))
      rwa [List.take_append_drop] at this
    · intro j b y hb hy
      rw [del_get] at hb hy
      by_cases h1 : j < i
      · rw [if_pos h1] at hb hy; exact h.ents _ b y hb hy
      · rw [if_neg h1] at hb hy; exact h.ents _ b y hb hy
  have HFIN := hide hfin
  have HG2 := hide hg
  have HTK := hide htk
  have HCL := hide hcl
  have hu9 : Try.prog.underlying 61 = some (.slice 78) := Try.underlying61
  have hsz9 : (Try.prog.info? 78).map (·.size) = some 1 := by kernel_rfl
  have hcz : (ps.length : Int) ≤ (cap : Int) := by omega
  have hcmz : (cap : Int) ≤ 9223372036854775807 := by unfold maxLen at hcm; omega
  have hiz : (i : Int) < (ps.length : Int) := by omega
  have hiz1 : (i : Int) + 1 ≤ (ps.length : Int) := by omega
  have hizl : (i : Int) ≤ (ps.length : Int) := by omega
  have hi0z : (0 : Int) ≤ (i : Int) := by omega
  have hi1z : (0 : Int) ≤ (i : Int) + 1 := by omega
  have hit : ((i : Int) + 1).toNat = i + 1 := by omega
  have hlz : (ps.length : Int) < 1000000000000 := by omega
  have hwr : IntKind.i64.wrap ((i : Int) + 1) = (i : Int) + 1 := by rw [IntKind.wrap_i64]; omega
  have hci : ¬ cap = i := by omega
  have HMIN : Hid ((ptrs (ps.drop (i + 1))).length = Nat.min (ps.length - (i + 1)) (ps.length - i)) := hide (by rw [ptrs_len, List.length_drop]; exact (Nat.min_eq_left (by omega)).symm)
  have HSRC : Hid (∀ j v, (ptrs (ps.drop (i + 1)))[j]? = some v → w.cell? ((⟨g, i + 1, none⟩ : Addr).add j) = some v) := hide (fun j v hv => by
    have hadd : (⟨g, i + 1, none⟩ : Addr).add j = ⟨g, i + 1 + j, none⟩ := by unfold Addr.add; split <;> simp_all
    rw [hadd, cell_of_row _ g _ _ _ _ (unhide HG2), List.getElem?_toArray]
    have h9 : (cur.take ps.length)[i + 1 + j]? = some v := by
      rw [unhide HTK]
      simp only [ptrs, List.map_drop, List.getElem?_drop] at hv ⊢
      exact hv
    rw [List.getElem?_take] at h9
    split at h9
    · exact h9
    · cases h9)
  clear h hfin hg htk hcl hcm hnc hlp hi hl
  go_enter Try.func51, Try.ntmps51
  by_cases hcp : cap = i + 1
  · have HNIL : Hid (ptrs (ps.drop (i + 1)) = []) := hide (by rw [List.drop_of_length_le (by omega)]; rfl)
    have hpl : ps.length = i + 1 := by omega
    have HPL := hide hpl
    rw [unhide HNIL] at HFIN
    rw [hpl] at HFIN c2 hcz hiz hiz1 hizl hlz
    subst hcp
    clear hpl hci
    have hle : (i : Int) ≤ (i : Int) + 1 := by omega
    go_wp2_with fail
    go_region_law (refine step_copy_in rfl (.tmp 9) (.tmp 16) 61 61 rfl 78 hu9 hsz9 (some ⟨g, i, none⟩) (some ⟨g, 0, none⟩) 1 1 0 0 (by rfl) (by rfl) g i cur 78 (by exact unhide HG2) [] rfl (fun h => by simp at h) (by have := unhide HCL; simp; omega) (fun v h => by simp at h) ?_; intro w4 hg4 hb4)
    all_goals obtain ⟨f1, f2⟩ := (unhide HFIN) w4 hg4 hb4
    all_goals have HF2 := hide f2
    all_goals clear f2 hg4 hb4
    all_goals go_wp2_with (go_at_call 58; refine ((unhide HF2) _ (by omega)).mono ?_; rintro e w5 ⟨rfl, hu⟩; have HU := hide hu; clear hu)
    all_goals go_end0
    all_goals exact ⟨rfl, unhide HU⟩
  · go_wp2_with fail
    go_region_law (refine step_copy_in rfl (.tmp 9) (.tmp 16) 61 61 rfl 78 hu9 hsz9 (some ⟨g, i, none⟩) (some ⟨g, i + 1, none⟩) (ps.length - i) (cap - i) (ps.length - (i + 1)) (cap - (i + 1)) (by rfl) (by rfl) g i cur 78 (by exact unhide HG2) (ptrs (ps.drop (i + 1))) (by exact unhide HMIN) (by exact fun _ => ⟨rfl, _, rfl, unhide HSRC⟩) (by have := unhide HCL; rw [ptrs_len, List.length_drop]; omega) (ptrs_one _) ?_; intro w4 hg4 hb4)
    all_goals obtain ⟨f1, f2⟩ := (unhide HFIN) w4 hg4 hb4
    all_goals have HF2 := hide f2
    all_goals clear f2 hg4 hb4
    all_goals go_wp2_with (go_at_call 58; refine ((unhide HF2) _ (by omega)).mono ?_; rintro e w5 ⟨rfl, hu⟩; have HU := hide hu; clear hu)
    all_goals go_end0
    all_goals exact ⟨rfl, unhide HU⟩
end
end Go.Proofs.Ytabdgmcajndgbaa
