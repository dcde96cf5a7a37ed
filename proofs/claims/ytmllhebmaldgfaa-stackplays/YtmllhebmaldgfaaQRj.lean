import Derived.Test.YtmllhebmaldgfaaQRh
/-
  The document's stack: is an element a border of a scope?
-/
namespace Go.Proofs.Ytmllhebmaldgfaa
open Go.RowKit

section
variable {w : World} {base bW bR : Nat} {ks : List Key} {L : List Int}
set_option maxHeartbeats 4000000 in
theorem rborder_11t (h : LiveR w base bW bR ks L) {id : Int} {c : Cal} (hc : elOf ks id = some c) (hcs : c.space = 1) (hm : hasT mathT c.name = true) (hl : amongM c 0 listT = false) : Calls Try.prog 104 #[.pointer (some ⟨bW, 0, none⟩), .int .i64 id, .int .i64 1] w fun e w' => e = .returned (.bool (borderM c 1)) ∧ Below w.heap.size w w' := by
  obtain ⟨i, g, cap, n, qk, r, aa, an, ac, ka, kn, kc, rfl, d0, dR, hlt, hm, c0, c1, c2, c3, c4, c5, c6, c7, c8, c9⟩ := h.whole hc
  have hltz : (i : Int) < (n : Int) := by omega
  have hmz : (n : Int) ≤ 32768 := by omega
  obtain ⟨cs, cn⟩ := c
  simp only at *
  subst hcs
  have HH := hide h
  have HC := hide hc
  have hb3 : Below w.heap.size w (((w.alloc (.cells #[.int .i64 qk, .int .i64 1, .string cn, .slice aa an ac, .string r.data, .string r.system, .int .i64 r.inner, .int .i64 r.host, .int .i64 r.up, .slice ka kn kc] 129)).alloc (.cells (sRow tblT) 9)).alloc (.cells (sRow bordT) 9)) := below3 _ _ _ _
  have ht2 : TabAt (((w.alloc (.cells #[.int .i64 qk, .int .i64 1, .string cn, .slice aa an ac, .string r.data, .string r.system, .int .i64 r.inner, .int .i64 r.host, .int .i64 r.up, .slice ka kn kc] 129)).alloc (.cells (sRow tblT) 9)).alloc (.cells (sRow bordT) 9)) (w.heap.size + 1) tblT := tab_2nd _ _ _ _ _
  have ht3 : TabAt (((w.alloc (.cells #[.int .i64 qk, .int .i64 1, .string cn, .slice aa an ac, .string r.data, .string r.system, .int .i64 r.inner, .int .i64 r.host, .int .i64 r.up, .slice ka kn kc] 129)).alloc (.cells (sRow tblT) 9)).alloc (.cells (sRow bordT) 9)) (w.heap.size + 1 + 1) bordT := tab_3rd _ _ _ _ _
  have hsz : (((w.alloc (.cells #[.int .i64 qk, .int .i64 1, .string cn, .slice aa an ac, .string r.data, .string r.system, .int .i64 r.inner, .int .i64 r.host, .int .i64 r.up, .slice ka kn kc] 129)).alloc (.cells (sRow tblT) 9)).alloc (.cells (sRow bordT) 9)).heap.size = w.heap.size + 3 := by simp
  have hx1 : (((w.alloc (.cells #[.int .i64 qk, .int .i64 1, .string cn, .slice aa an ac, .string r.data, .string r.system, .int .i64 r.inner, .int .i64 r.host, .int .i64 r.up, .slice ka kn kc] 129)).alloc (.cells (sRow tblT) 9)).alloc (.cells (sRow bordT) 9)).cell? ⟨w.heap.size, 1, none⟩ = some (.int .i64 1) := by
    rw [(below2 _ _ _).cell (p := ⟨w.heap.size, 1, none⟩) (by simp)]
    exact cell_row _ w.heap.size 1 _ _ _ (heap_alloc_new w _)
  have hx2 : (((w.alloc (.cells #[.int .i64 qk, .int .i64 1, .string cn, .slice aa an ac, .string r.data, .string r.system, .int .i64 r.inner, .int .i64 r.host, .int .i64 r.up, .slice ka kn kc] 129)).alloc (.cells (sRow tblT) 9)).alloc (.cells (sRow bordT) 9)).cell? ⟨w.heap.size, 2, none⟩ = some (.string cn) := by
    rw [(below2 _ _ _).cell (p := ⟨w.heap.size, 2, none⟩) (by simp)]
    exact cell_row _ w.heap.size 2 _ _ _ (heap_alloc_new w _)
  have hy0 : (((w.alloc (.cells #[.int .i64 qk, .int .i64 1, .string cn, .slice aa an ac, .string r.data, .string r.system, .int .i64 r.inner, .int .i64 r.host, .int .i64 r.up, .slice ka kn kc] 129)).alloc (.cells (sRow tblT) 9)).alloc (.cells (sRow bordT) 9)).cell? ⟨bW, 0, none⟩ = some (.pointer (some ⟨bR, 0, none⟩)) := (hb3.cell (p := ⟨bW, 0, none⟩) (lt_cell d0)).trans d0
  have hund : undef = Value.tuple #[] := rfl
  have HF := hide (Fin3.mk (bW := bW) (bR := bR) hb3 (by omega) ht3 hx1 hx2 hy0)
  have hr : amongM ⟨1, cn⟩ 0 bordT = false := by simp [amongM]
  have HR := hide hr
  have HM := hide hm
  have HL := hide hl
  have e0 : borderM ⟨1, cn⟩ 1 = true := by
    simp [borderM, plainM, foreignM, amongM, hm, namedM]
  rw [e0]
  have HB3 := hide hb3
  clear h hc hb3 ht2 ht3 hsz e0 hr hl hx1 hx2 hy0 hm
  go_enter Try.func104, Try.ntmps104
  go_wp2_with (go_at_call 90; refine ((unhide HH).of (unhide HC) ((unhide HB3).alloc (unhide HB3).size (.cells (sRow listT) 9)) (Below.refl _ _) listT (by decide) (w.heap.size + 1 + 1 + 1) (by have := tab_new (((w.alloc (.cells #[.int .i64 qk, .int .i64 1, .string cn, .slice aa an ac, .string r.data, .string r.system, .int .i64 r.inner, .int .i64 r.host, .int .i64 r.up, .slice ka kn kc] 129)).alloc (.cells (sRow tblT) 9)).alloc (.cells (sRow bordT) 9)) listT 9; simpa using this)).mono ?_; rw [unhide HL]; rintro e w1 ⟨rfl, hb⟩; have hf := (unhide HF).below ((below_new _ _).trans (hb.mono (below_new _ _).size)); have HF := hide hf; have z1 := hf.x1; have z2 := hf.x2; have z0 := hf.y0; clear hf; clear hb)
  first | go_region_with (first | (go_at_call 107; refine (Fin3.inB (by first | exact unhide HF | exact (unhide HF).below (Below.refl _ _).drew | exact (unhide HF).below (below_dn (Below.refl _ _) _) | exact (unhide HF).below (Below.refl _ _).drew.drew) mathT (by decide) _ bt (by first | exact unhide HT | exact (unhide HT).below (Below.refl _ _).drew | exact (unhide HT).below (below_dn (Below.refl _ _) _) | exact (unhide HT).below (Below.refl _ _).drew.drew)).mono ?_; rw [unhide HM]; rintro e w4 ⟨rfl, hf⟩; have HF := hide hf; have z1 := hf.x1; have z2 := hf.x2; have z0 := hf.y0; clear hf) | (go_at_call 108; refine (Fin3.mathB (by first | exact unhide HF | exact (unhide HF).below (Below.refl _ _).drew | exact (unhide HF).below (below_dn (Below.refl _ _) _) | exact (unhide HF).below (Below.refl _ _).drew.drew)).mono ?_; rintro e w3 ⟨bt, rfl, ht, hf⟩; have HF := hide hf; have z1 := hf.x1; have z2 := hf.x2; have z0 := hf.y0; clear hf; have HT := hide ht; clear ht) | (go_at_call 90; refine (Fin3.ofB (by first | exact unhide HF | exact (unhide HF).below (Below.refl _ _).drew | exact (unhide HF).below (below_dn (Below.refl _ _) _) | exact (unhide HF).below (Below.refl _ _).drew.drew) (unhide HH) (unhide HC)).mono ?_; rw [unhide HR]; rintro e w2 ⟨rfl, hf⟩; have HF := hide hf; have z1 := hf.x1; have z2 := hf.x2; have z0 := hf.y0; clear hf)) | fail
  all_goals go_wp2
  all_goals go_ret
  all_goals exact ⟨rfl, (unhide HF).b⟩
set_option maxHeartbeats 4000000 in
theorem rborder_11f (h : LiveR w base bW bR ks L) {id : Int} {c : Cal} (hc : elOf ks id = some c) (hcs : c.space = 1) (hm : hasT mathT c.name = false) (hl : amongM c 0 listT = false) : Calls Try.prog 104 #[.pointer (some ⟨bW, 0, none⟩), .int .i64 id, .int .i64 1] w fun e w' => e = .returned (.bool (borderM c 1)) ∧ Below w.heap.size w w' := by
  obtain ⟨i, g, cap, n, qk, r, aa, an, ac, ka, kn, kc, rfl, d0, dR, hlt, hm, c0, c1, c2, c3, c4, c5, c6, c7, c8, c9⟩ := h.whole hc
  have hltz : (i : Int) < (n : Int) := by omega
  have hmz : (n : Int) ≤ 32768 := by omega
  obtain ⟨cs, cn⟩ := c
  simp only at *
  subst hcs
  have HH := hide h
  have HC := hide hc
  have hb3 : Below w.heap.size w (((w.alloc (.cells #[.int .i64 qk, .int .i64 1, .string cn, .slice aa an ac, .string r.data, .string r.system, .int .i64 r.inner, .int .i64 r.host, .int .i64 r.up, .slice ka kn kc] 129)).alloc (.cells (sRow tblT) 9)).alloc (.cells (sRow bordT) 9)) := below3 _ _ _ _
  have ht2 : TabAt (((w.alloc (.cells #[.int .i64 qk, .int .i64 1, .string cn, .slice aa an ac, .string r.data, .string r.system, .int .i64 r.inner, .int .i64 r.host, .int .i64 r.up, .slice ka kn kc] 129)).alloc (.cells (sRow tblT) 9)).alloc (.cells (sRow bordT) 9)) (w.heap.size + 1) tblT := tab_2nd _ _ _ _ _
  have ht3 : TabAt (((w.alloc (.cells #[.int .i64 qk, .int .i64 1, .string cn, .slice aa an ac, .string r.data, .string r.system, .int .i64 r.inner, .int .i64 r.host, .int .i64 r.up, .slice ka kn kc] 129)).alloc (.cells (sRow tblT) 9)).alloc (.cells (sRow bordT) 9)) (w.heap.size + 1 + 1) bordT := tab_3rd _ _ _ _ _
  have hsz : (((w.alloc (.cells #[.int .i64 qk, .int .i64 1, .string cn, .slice aa an ac, .string r.data, .string r.system, .int .i64 r.inner, .int .i64 r.host, .int .i64 r.up, .slice ka kn kc] 129)).alloc (.cells (sRow tblT) 9)).alloc (.cells (sRow bordT) 9)).heap.size = w.heap.size + 3 := by simp
  have hx1 : (((w.alloc (.cells #[.int .i64 qk, .int .i64 1, .string cn, .slice aa an ac, .string r.data, .string r.system, .int .i64 r.inner, .int .i64 r.host, .int .i64 r.up, .slice ka kn kc] 129)).alloc (.cells (sRow tblT) 9)).alloc (.cells (sRow bordT) 9)).cell? ⟨w.heap.size, 1, none⟩ = some (.int .i64 1) := by
    rw [(below2 _ _ _).cell (p := ⟨w.heap.size, 1, none⟩) (by simp)]
    exact cell_row _ w.heap.size 1 _ _ _ (heap_alloc_new w _)
  have hx2 : (((w.alloc (.cells #[.int .i64 qk, .int .i64 1, .string cn, .slice aa an ac, .string r.data, .string r.system, .int .i64 r.inner, .int .i64 r.host, .int .i64 r.up, .slice ka kn kc] 129)).alloc (.cells (sRow tblT) 9)).alloc (.cells (sRow bordT) 9)).cell? ⟨w.heap.size, 2, none⟩ = some (.string cn) := by
    rw [(below2 _ _ _).cell (p := ⟨w.heap.size, 2, none⟩) (by simp)]
    exact cell_row _ w.heap.size 2 _ _ _ (heap_alloc_new w _)
  have hy0 : (((w.alloc (.cells #[.int .i64 qk, .int .i64 1, .string cn, .slice aa an ac, .string r.data, .string r.system, .int .i64 r.inner, .int .i64 r.host, .int .i64 r.up, .slice ka kn kc] 129)).alloc (.cells (sRow tblT) 9)).alloc (.cells (sRow bordT) 9)).cell? ⟨bW, 0, none⟩ = some (.pointer (some ⟨bR, 0, none⟩)) := (hb3.cell (p := ⟨bW, 0, none⟩) (lt_cell d0)).trans d0
  have hund : undef = Value.tuple #[] := rfl
  have HF := hide (Fin3.mk (bW := bW) (bR := bR) hb3 (by omega) ht3 hx1 hx2 hy0)
  have hr : amongM ⟨1, cn⟩ 0 bordT = false := by simp [amongM]
  have HR := hide hr
  have HM := hide hm
  have HL := hide hl
  have e0 : borderM ⟨1, cn⟩ 1 = false := by
    simp [borderM, plainM, foreignM, amongM, hm, namedM]
  rw [e0]
  have HB3 := hide hb3
  clear h hc hb3 ht2 ht3 hsz e0 hr hl hx1 hx2 hy0 hm
  go_enter Try.func104, Try.ntmps104
  go_wp2_with (go_at_call 90; refine ((unhide HH).of (unhide HC) ((unhide HB3).alloc (unhide HB3).size (.cells (sRow listT) 9)) (Below.refl _ _) listT (by decide) (w.heap.size + 1 + 1 + 1) (by have := tab_new (((w.alloc (.cells #[.int .i64 qk, .int .i64 1, .string cn, .slice aa an ac, .string r.data, .string r.system, .int .i64 r.inner, .int .i64 r.host, .int .i64 r.up, .slice ka kn kc] 129)).alloc (.cells (sRow tblT) 9)).alloc (.cells (sRow bordT) 9)) listT 9; simpa using this)).mono ?_; rw [unhide HL]; rintro e w1 ⟨rfl, hb⟩; have hf := (unhide HF).below ((below_new _ _).trans (hb.mono (below_new _ _).size)); have HF := hide hf; have z1 := hf.x1; have z2 := hf.x2; have z0 := hf.y0; clear hf; clear hb)
  first | go_region_with (first | (go_at_call 107; refine (Fin3.inB (by first | exact unhide HF | exact (unhide HF).below (Below.refl _ _).drew | exact (unhide HF).below (below_dn (Below.refl _ _) _) | exact (unhide HF).below (Below.refl _ _).drew.drew) mathT (by decide) _ bt (by first | exact unhide HT | exact (unhide HT).below (Below.refl _ _).drew | exact (unhide HT).below (below_dn (Below.refl _ _) _) | exact (unhide HT).below (Below.refl _ _).drew.drew)).mono ?_; rw [unhide HM]; rintro e w4 ⟨rfl, hf⟩; have HF := hide hf; have z1 := hf.x1; have z2 := hf.x2; have z0 := hf.y0; clear hf) | (go_at_call 108; refine (Fin3.mathB (by first | exact unhide HF | exact (unhide HF).below (Below.refl _ _).drew | exact (unhide HF).below (below_dn (Below.refl _ _) _) | exact (unhide HF).below (Below.refl _ _).drew.drew)).mono ?_; rintro e w3 ⟨bt, rfl, ht, hf⟩; have HF := hide hf; have z1 := hf.x1; have z2 := hf.x2; have z0 := hf.y0; clear hf; have HT := hide ht; clear ht) | (go_at_call 90; refine (Fin3.ofB (by first | exact unhide HF | exact (unhide HF).below (Below.refl _ _).drew | exact (unhide HF).below (below_dn (Below.refl _ _) _) | exact (unhide HF).below (Below.refl _ _).drew.drew) (unhide HH) (unhide HC)).mono ?_; rw [unhide HR]; rintro e w2 ⟨rfl, hf⟩; have HF := hide hf; have z1 := hf.x1; have z2 := hf.x2; have z0 := hf.y0; clear hf)) | fail
  all_goals go_wp2
  all_goals go_ret
  all_goals exact ⟨rfl, (unhide HF).b⟩
set_option maxHeartbeats 4000000 in
theorem rborder_12t (h : LiveR w base bW bR ks L) {id : Int} {c : Cal} (hc : elOf ks id = some c) (hcs : c.space = 2) (hm : hasT svgT c.name = true) (hl : amongM c 0 listT = false) : Calls Try.prog 104 #[.pointer (some ⟨bW, 0, none⟩), .int .i64 id, .int .i64 1] w fun e w' => e = .returned (.bool (borderM c 1)) ∧ Below w.heap.size w w' := by
  obtain ⟨i, g, cap, n, qk, r, aa, an, ac, ka, kn, kc, rfl, d0, dR, hlt, hm, c0, c1, c2, c3, c4, c5, c6, c7, c8, c9⟩ := h.whole hc
  have hltz : (i : Int) < (n : Int) := by omega
  have hmz : (n : Int) ≤ 32768 := by omega
  obtain ⟨cs, cn⟩ := c
  simp only at *
  subst hcs
  have HH := hide h
  have HC := hide hc
  have hb3 : Below w.heap.size w (((w.alloc (.cells #[.int .i64 qk, .int .i64 2, .string cn, .slice aa an ac, .string r.data, .string r.system, .int .i64 r.inner, .int .i64 r.host, .int .i64 r.up, .slice ka kn kc] 129)).alloc (.cells (sRow tblT) 9)).alloc (.cells (sRow bordT) 9)) := below3 _ _ _ _
  have ht2 : TabAt (((w.alloc (.cells #[.int .i64 qk, .int .i64 2, .string cn, .slice aa an ac, .string r.data, .string r.system, .int .i64 r.inner, .int .i64 r.host, .int .i64 r.up, .slice ka kn kc] 129)).alloc (.cells (sRow tblT) 9)).alloc (.cells (sRow bordT) 9)) (w.heap.size + 1) tblT := tab_2nd _ _ _ _ _
  have ht3 : TabAt (((w.alloc (.cells #[.int .i64 qk, .int .i64 2, .string cn, .slice aa an ac, .string r.data, .string r.system, .int .i64 r.inner, .int .i64 r.host, .int .i64 r.up, .slice ka kn kc] 129)).alloc (.cells (sRow tblT) 9)).alloc (.cells (sRow bordT) 9)) (w.heap.size + 1 + 1) bordT := tab_3rd _ _ _ _ _
  have hsz : (((w.alloc (.cells #[.int .i64 qk, .int .i64 2, .string cn, .slice aa an ac, .string r.data, .string r.system, .int .i64 r.inner, .int .i64 r.host, .int .i64 r.up, .slice ka kn kc] 129)).alloc (.cells (sRow tblT) 9)).alloc (.cells (sRow bordT) 9)).heap.size = w.heap.size + 3 := by simp
  have hx1 : (((w.alloc (.cells #[.int .i64 qk, .int .i64 2, .string cn, .slice aa an ac, .string r.data, .string r.system, .int .i64 r.inner, .int .i64 r.host, .int .i64 r.up, .slice ka kn kc] 129)).alloc (.cells (sRow tblT) 9)).alloc (.cells (sRow bordT) 9)).cell? ⟨w.heap.size, 1, none⟩ = some (.int .i64 2) := by
    rw [(below2 _ _ _).cell (p := ⟨w.heap.size, 1, none⟩) (by simp)]
    exact cell_row _ w.heap.size 1 _ _ _ (heap_alloc_new w _)
  have hx2 : (((w.alloc (.cells #[.int .i64 qk, .int .i64 2, .string cn, .slice aa an ac, .string r.data, .string r.system, .int .i64 r.inner, .int .i64 r.host, .int .i64 r.up, .slice ka kn kc] 129)).alloc (.cells (sRow tblT) 9)).alloc (.cells (sRow bordT) 9)).cell? ⟨w.heap.size, 2, none⟩ = some (.string cn) := by
    rw [(below2 _ _ _).cell (p := ⟨w.heap.size, 2, none⟩) (by simp)]
    exact cell_row _ w.heap.size 2 _ _ _ (heap_alloc_new w _)
  have hy0 : (((w.alloc (.cells #[.int .i64 qk, .int .i64 2, .string cn, .slice aa an ac, .string r.data, .string r.system, .int .i64 r.inner, .int .i64 r.host, .int .i64 r.up, .slice ka kn kc] 129)).alloc (.cells (sRow tblT) 9)).alloc (.cells (sRow bordT) 9)).cell? ⟨bW, 0, none⟩ = some (.pointer (some ⟨bR, 0, none⟩)) := (hb3.cell (p := ⟨bW, 0, none⟩) (lt_cell d0)).trans d0
  have hund : undef = Value.tuple #[] := rfl
  have HF := hide (Fin3.mk (bW := bW) (bR := bR) hb3 (by omega) ht3 hx1 hx2 hy0)
  have hr : amongM ⟨2, cn⟩ 0 bordT = false := by simp [amongM]
  have HR := hide hr
  have HM := hide hm
  have HL := hide hl
  have e0 : borderM ⟨2, cn⟩ 1 = true := by
    simp [borderM, plainM, foreignM, amongM, hm, namedM]
  rw [e0]
  have HB3 := hide hb3
  clear h hc hb3 ht2 ht3 hsz e0 hr hl hx1 hx2 hy0 hm
  go_enter Try.func104, Try.ntmps104
  go_wp2_with (go_at_call 90; refine ((unhide HH).of (unhide HC) ((unhide HB3).alloc (unhide HB3).size (.cells (sRow listT) 9)) (Below.refl _ _) listT (by decide) (w.heap.size + 1 + 1 + 1) (by have := tab_new (((w.alloc (.cells #[.int .i64 qk, .int .i64 2, .string cn, .slice aa an ac, .string r.data, .string r.system, .int .i64 r.inner, .int .i64 r.host, .int .i64 r.up, .slice ka kn kc] 129)).alloc (.cells (sRow tblT) 9)).alloc (.cells (sRow bordT) 9)) listT 9; simpa using this)).mono ?_; rw [unhide HL]; rintro e w1 ⟨rfl, hb⟩; have hf := (unhide HF).below ((below_new _ _).trans (hb.mono (below_new _ _).size)); have HF := hide hf; have z1 := hf.x1; have z2 := hf.x2; have z0 := hf.y0; clear hf; clear hb)
  first | go_region_with (first | (go_at_call 107; refine (Fin3.inB (by first | exact unhide HF | exact (unhide HF).below (Below.refl _ _).drew | exact (unhide HF).below (below_dn (Below.refl _ _) _) | exact (unhide HF).below (Below.refl _ _).drew.drew) svgT (by decide) _ bt (by first | exact unhide HT | exact (unhide HT).below (Below.refl _ _).drew | exact (unhide HT).below (below_dn (Below.refl _ _) _) | exact (unhide HT).below (Below.refl _ _).drew.drew)).mono ?_; rw [unhide HM]; rintro e w4 ⟨rfl, hf⟩; have HF := hide hf; have z1 := hf.x1; have z2 := hf.x2; have z0 := hf.y0; clear hf) | (go_at_call 109; refine (Fin3.drawnB (by first | exact unhide HF | exact (unhide HF).below (Below.refl _ _).drew | exact (unhide HF).below (below_dn (Below.refl _ _) _) | exact (unhide HF).below (Below.refl _ _).drew.drew)).mono ?_; rintro e w3 ⟨bt, rfl, ht, hf⟩; have HF := hide hf; have z1 := hf.x1; have z2 := hf.x2; have z0 := hf.y0; clear hf; have HT := hide ht; clear ht) | (go_at_call 90; refine (Fin3.ofB (by first | exact unhide HF | exact (unhide HF).below (Below.refl _ _).drew | exact (unhide HF).below (below_dn (Below.refl _ _) _) | exact (unhide HF).below (Below.refl _ _).drew.drew) (unhide HH) (unhide HC)).mono ?_; rw [unhide HR]; rintro e w2 ⟨rfl, hf⟩; have HF := hide hf; have z1 := hf.x1; have z2 := hf.x2; have z0 := hf.y0; clear hf)) | fail
  all_goals go_wp2
  all_goals go_ret
  all_goals exact ⟨rfl, (unhide HF).b⟩
set_option maxHeartbeats 4000000 in
theorem rborder_12f (h : LiveR w base bW bR ks L) {id : Int} {c : Cal} (hc : elOf ks id = some c) (hcs : c.space = 2) (hm : hasT svgT c.name = false) (hl : amongM c 0 listT = false) : Calls Try.prog 104 #[.pointer (some ⟨bW, 0, none⟩), .int .i64 id, .int .i64 1] w fun e w' => e = .returned (.bool (borderM c 1)) ∧ Below w.heap.size w w' := by
  obtain ⟨i, g, cap, n, qk, r, aa, an, ac, ka, kn, kc, rfl, d0, dR, hlt, hm, c0, c1, c2, c3, c4, c5, c6, c7, c8, c9⟩ := h.whole hc
  have hltz : (i : Int) < (n : Int) := by omega
  have hmz : (n : Int) ≤ 32768 := by omega
  obtain ⟨cs, cn⟩ := c
  simp only at *
  subst hcs
  have HH := hide h
  have HC := hide hc
  have hb3 : Below w.heap.size w (((w.alloc (.cells #[.int .i64 qk, .int .i64 2, .string cn, .slice aa an ac, .string r.data, .string r.system, .int .i64 r.inner, .int .i64 r.host, .int .i64 r.up, .slice ka kn kc] 129)).alloc (.cells (sRow tblT) 9)).alloc (.cells (sRow bordT) 9)) := below3 _ _ _ _
  have ht2 : TabAt (((w.alloc (.cells #[.int .i64 qk, .int .i64 2, .string cn, .slice aa an ac, .string r.data, .string r.system, .int .i64 r.inner, .int .i64 r.host, .int .i64 r.up, .slice ka kn kc] 129)).alloc (.cells (sRow tblT) 9)).alloc (.cells (sRow bordT) 9)) (w.heap.size + 1) tblT := tab_2nd _ _ _ _ _
  have ht3 : TabAt (((w.alloc (.cells #[.int .i64 qk, .int .i64 2, .string cn, .slice aa an ac, .string r.data, .string r.system, .int .i64 r.inner, .int .i64 r.host, .int .i64 r.up, .slice ka kn kc] 129)).alloc (.cells (sRow tblT) 9)).alloc (.cells (sRow bordT) 9)) (w.heap.size + 1 + 1) bordT := tab_3rd _ _ _ _ _
  have hsz : (((w.alloc (.cells #[.int .i64 qk, .int .i64 2, .string cn, .slice aa an ac, .string r.data, .string r.system, .int .i64 r.inner, .int .i64 r.host, .int .i64 r.up, .slice ka kn kc] 129)).alloc (.cells (sRow tblT) 9)).alloc (.cells (sRow bordT) 9)).heap.size = w.heap.size + 3 := by simp
  have hx1 : (((w.alloc (.cells #[.int .i64 qk, .int .i64 2, .string cn, .slice aa an ac, .string r.data, .string r.system, .int .i64 r.inner, .int .i64 r.host, .int .i64 r.up, .slice ka kn kc] 129)).alloc (.cells (sRow tblT) 9)).alloc (.cells (sRow bordT) 9)).cell? ⟨w.heap.size, 1, none⟩ = some (.int .i64 2) := by
    rw [(below2 _ _ _).cell (p := ⟨w.heap.size, 1, none⟩) (by simp)]
    exact cell_row _ w.heap.size 1 _ _ _ (heap_alloc_new w _)
  have hx2 : (((w.alloc (.cells #[.int .i64 qk, .int .i64 2, .string cn, .slice aa an ac, .string r.data, .string r.system, .int .i64 r.inner, .int .i64 r.host, .int .i64 r.up, .slice ka kn kc] 129)).alloc (.cells (sRow tblT) 9)).alloc (.cells (sRow bordT) 9)).cell? ⟨w.heap.size, 2, none⟩ = some (.string cn) := by
    rw [(below2 _ _ _).cell (p := ⟨w.heap.size, 2, none⟩) (by simp)]
    exact cell_row _ w.heap.size 2 _ _ _ (heap_alloc_new w _)
  have hy0 : (((w.alloc (.cells #[.int .i64 qk, .int .i64 2, .string cn, .slice aa an ac, .string r.data, .string r.system, .int .i64 r.inner, .int .i64 r.host, .int .i64 r.up, .slice ka kn kc] 129)).alloc (.cells (sRow tblT) 9)).alloc (.cells (sRow bordT) 9)).cell? ⟨bW, 0, none⟩ = some (.pointer (some ⟨bR, 0, none⟩)) := (hb3.cell (p := ⟨bW, 0, none⟩) (lt_cell d0)).trans d0
  have hund : undef = Value.tuple #[] := rfl
  have HF := hide (Fin3.mk (bW := bW) (bR := bR) hb3 (by omega) ht3 hx1 hx2 hy0)
  have hr : amongM ⟨2, cn⟩ 0 bordT = false := by simp [amongM]
  have HR := hide hr
  have HM := hide hm
  have HL := hide hl
  have e0 : borderM ⟨2, cn⟩ 1 = false := by
    simp [borderM, plainM, foreignM, amongM, hm, namedM]
  rw [e0]
  have HB3 := hide hb3
  clear h hc hb3 ht2 ht3 hsz e0 hr hl hx1 hx2 hy0 hm
  go_enter Try.func104, Try.ntmps104
  go_wp2_with (go_at_call 90; refine ((unhide HH).of (unhide HC) ((unhide HB3).alloc (unhide HB3).size (.cells (sRow listT) 9)) (Below.refl _ _) listT (by decide) (w.heap.size + 1 + 1 + 1) (by have := tab_new (((w.alloc (.cells #[.int .i64 qk, .int .i64 2, .string cn, .slice aa an ac, .string r.data, .string r.system, .int .i64 r.inner, .int .i64 r.host, .int .i64 r.up, .slice ka kn kc] 129)).alloc (.cells (sRow tblT) 9)).alloc (.cells (sRow bordT) 9)) listT 9; simpa using this)).mono ?_; rw [unhide HL]; rintro e w1 ⟨rfl, hb⟩; have hf := (unhide HF).below ((below_new _ _).trans (hb.mono (below_new _ _).size)); have HF := hide hf; have z1 := hf.x1; have z2 := hf.x2; have z0 := hf.y0; clear hf; clear hb)
  first | go_region_with (first | (go_at_call 107; refine (Fin3.inB (by first | exact unhide HF | exact (unhide HF).below (Below.refl _ _).drew | exact (unhide HF).below (below_dn (Below.refl _ _) _) | exact (unhide HF).below (Below.refl _ _).drew.drew) svgT (by decide) _ bt (by first | exact unhide HT | exact (unhide HT).below (Below.refl _ _).drew | exact (unhide HT).below (below_dn (Below.refl _ _) _) | exact (unhide HT).below (Below.refl _ _).drew.drew)).mono ?_; rw [unhide HM]; rintro e w4 ⟨rfl, hf⟩; have HF := hide hf; have z1 := hf.x1; have z2 := hf.x2; have z0 := hf.y0; clear hf) | (go_at_call 109; refine (Fin3.drawnB (by first | exact unhide HF | exact (unhide HF).below (Below.refl _ _).drew | exact (unhide HF).below (below_dn (Below.refl _ _) _) | exact (unhide HF).below (Below.refl _ _).drew.drew)).mono ?_; rintro e w3 ⟨bt, rfl, ht, hf⟩; have HF := hide hf; have z1 := hf.x1; have z2 := hf.x2; have z0 := hf.y0; clear hf; have HT := hide ht; clear ht) | (go_at_call 90; refine (Fin3.ofB (by first | exact unhide HF | exact (unhide HF).below (Below.refl _ _).drew | exact (unhide HF).below (below_dn (Below.refl _ _) _) | exact (unhide HF).below (Below.refl _ _).drew.drew) (unhide HH) (unhide HC)).mono ?_; rw [unhide HR]; rintro e w2 ⟨rfl, hf⟩; have HF := hide hf; have z1 := hf.x1; have z2 := hf.x2; have z0 := hf.y0; clear hf)) | fail
  all_goals go_wp2
  all_goals go_ret
  all_goals exact ⟨rfl, (unhide HF).b⟩
set_option maxHeartbeats 4000000 in
theorem rborder_1t (h : LiveR w base bW bR ks L) {id : Int} {c : Cal} (hc : elOf ks id = some c) (q1 : (c.space == 1) = false) (q2 : (c.space == 2) = false) (hr : amongM c 0 bordT = true) (hl : amongM c 0 listT = false) : Calls Try.prog 104 #[.pointer (some ⟨bW, 0, none⟩), .int .i64 id, .int .i64 1] w fun e w' => e = .returned (.bool (borderM c 1)) ∧ Below w.heap.size w w' := by
  obtain ⟨i, g, cap, n, qk, r, aa, an, ac, ka, kn, kc, rfl, d0, dR, hlt, hm, c0, c1, c2, c3, c4, c5, c6, c7, c8, c9⟩ := h.whole hc
  have hltz : (i : Int) < (n : Int) := by omega
  have hmz : (n : Int) ≤ 32768 := by omega
  obtain ⟨cs, cn⟩ := c
  simp only at *
  have HH := hide h
  have HC := hide hc
  have hb3 : Below w.heap.size w (((w.alloc (.cells #[.int .i64 qk, .int .i64 cs, .string cn, .slice aa an ac, .string r.data, .string r.system, .int .i64 r.inner, .int .i64 r.host, .int .i64 r.up, .slice ka kn kc] 129)).alloc (.cells (sRow tblT) 9)).alloc (.cells (sRow bordT) 9)) := below3 _ _ _ _
  have ht2 : TabAt (((w.alloc (.cells #[.int .i64 qk, .int .i64 cs, .string cn, .slice aa an ac, .string r.data, .string r.system, .int .i64 r.inner, .int .i64 r.host, .int .i64 r.up, .slice ka kn kc] 129)).alloc (.cells (sRow tblT) 9)).alloc (.cells (sRow bordT) 9)) (w.heap.size + 1) tblT := tab_2nd _ _ _ _ _
  have ht3 : TabAt (((w.alloc (.cells #[.int .i64 qk, .int .i64 cs, .string cn, .slice aa an ac, .string r.data, .string r.system, .int .i64 r.inner, .int .i64 r.host, .int .i64 r.up, .slice ka kn kc] 129)).alloc (.cells (sRow tblT) 9)).alloc (.cells (sRow bordT) 9)) (w.heap.size + 1 + 1) bordT := tab_3rd _ _ _ _ _
  have hsz : (((w.alloc (.cells #[.int .i64 qk, .int .i64 cs, .string cn, .slice aa an ac, .string r.data, .string r.system, .int .i64 r.inner, .int .i64 r.host, .int .i64 r.up, .slice ka kn kc] 129)).alloc (.cells (sRow tblT) 9)).alloc (.cells (sRow bordT) 9)).heap.size = w.heap.size + 3 := by simp
  have hx1 : (((w.alloc (.cells #[.int .i64 qk, .int .i64 cs, .string cn, .slice aa an ac, .string r.data, .string r.system, .int .i64 r.inner, .int .i64 r.host, .int .i64 r.up, .slice ka kn kc] 129)).alloc (.cells (sRow tblT) 9)).alloc (.cells (sRow bordT) 9)).cell? ⟨w.heap.size, 1, none⟩ = some (.int .i64 cs) := by
    rw [(below2 _ _ _).cell (p := ⟨w.heap.size, 1, none⟩) (by simp)]
    exact cell_row _ w.heap.size 1 _ _ _ (heap_alloc_new w _)
  have hx2 : (((w.alloc (.cells #[.int .i64 qk, .int .i64 cs, .string cn, .slice aa an ac, .string r.data, .string r.system, .int .i64 r.inner, .int .i64 r.host, .int .i64 r.up, .slice ka kn kc] 129)).alloc (.cells (sRow tblT) 9)).alloc (.cells (sRow bordT) 9)).cell? ⟨w.heap.size, 2, none⟩ = some (.string cn) := by
    rw [(below2 _ _ _).cell (p := ⟨w.heap.size, 2, none⟩) (by simp)]
    exact cell_row _ w.heap.size 2 _ _ _ (heap_alloc_new w _)
  have hy0 : (((w.alloc (.cells #[.int .i64 qk, .int .i64 cs, .string cn, .slice aa an ac, .string r.data, .string r.system, .int .i64 r.inner, .int .i64 r.host, .int .i64 r.up, .slice ka kn kc] 129)).alloc (.cells (sRow tblT) 9)).alloc (.cells (sRow bordT) 9)).cell? ⟨bW, 0, none⟩ = some (.pointer (some ⟨bR, 0, none⟩)) := (hb3.cell (p := ⟨bW, 0, none⟩) (lt_cell d0)).trans d0
  have hund : undef = Value.tuple #[] := rfl
  have HF := hide (Fin3.mk (bW := bW) (bR := bR) hb3 (by omega) ht3 hx1 hx2 hy0)
  have HR := hide hr
  have HL := hide hl
  have e0 : borderM ⟨cs, cn⟩ 1 = true := by
    have hl2 := list_none hl
    simp [borderM, plainM, foreignM, hr, hl2.1, hl2.2]
  rw [e0]
  have HB3 := hide hb3
  clear h hc hb3 ht2 ht3 hsz e0 hr hl hx1 hx2 hy0
  have q1' : ¬ cs = 1 := by simpa using q1
  have q2' : ¬ cs = 2 := by simpa using q2
  go_enter Try.func104, Try.ntmps104
  go_wp2_with (go_at_call 90; refine ((unhide HH).of (unhide HC) ((unhide HB3).alloc (unhide HB3).size (.cells (sRow listT) 9)) (Below.refl _ _) listT (by decide) (w.heap.size + 1 + 1 + 1) (by have := tab_new (((w.alloc (.cells #[.int .i64 qk, .int .i64 cs, .string cn, .slice aa an ac, .string r.data, .string r.system, .int .i64 r.inner, .int .i64 r.host, .int .i64 r.up, .slice ka kn kc] 129)).alloc (.cells (sRow tblT) 9)).alloc (.cells (sRow bordT) 9)) listT 9; simpa using this)).mono ?_; rw [unhide HL]; rintro e w1 ⟨rfl, hb⟩; have hf := (unhide HF).below ((below_new _ _).trans (hb.mono (below_new _ _).size)); have HF := hide hf; have z1 := hf.x1; have z2 := hf.x2; have z0 := hf.y0; clear hf; clear hb)
  first | go_region_with ((go_at_call 90; refine (Fin3.ofB (by first | exact unhide HF | exact (unhide HF).below (Below.refl _ _).drew | exact (unhide HF).below (below_dn (Below.refl _ _) _) | exact (unhide HF).below (Below.refl _ _).drew.drew) (unhide HH) (unhide HC)).mono ?_; rw [unhide HR]; rintro e w2 ⟨rfl, hf⟩; have HF := hide hf; have z1 := hf.x1; have z2 := hf.x2; have z0 := hf.y0; clear hf)) | fail
  all_goals go_wp2
  all_goals go_ret
  all_goals exact ⟨rfl, (unhide HF).b⟩
set_option maxHeartbeats 4000000 in
theorem rborder_1f (h : LiveR w base bW bR ks L) {id : Int} {c : Cal} (hc : elOf ks id = some c) (q1 : (c.space == 1) = false) (q2 : (c.space == 2) = false) (hr : amongM c 0 bordT = false) (hl : amongM c 0 listT = false) : Calls Try.prog 104 #[.pointer (some ⟨bW, 0, none⟩), .int .i64 id, .int .i64 1] w fun e w' => e = .returned (.bool (borderM c 1)) ∧ Below w.heap.size w w' := by
  obtain ⟨i, g, cap, n, qk, r, aa, an, ac, ka, kn, kc, rfl, d0, dR, hlt, hm, c0, c1, c2, c3, c4, c5, c6, c7, c8, c9⟩ := h.whole hc
  have hltz : (i : Int) < (n : Int) := by omega
  have hmz : (n : Int) ≤ 32768 := by omega
  obtain ⟨cs, cn⟩ := c
  simp only at *
  have HH := hide h
  have HC := hide hc
  have hb3 : Below w.heap.size w (((w.alloc (.cells #[.int .i64 qk, .int .i64 cs, .string cn, .slice aa an ac, .string r.data, .string r.system, .int .i64 r.inner, .int .i64 r.host, .int .i64 r.up, .slice ka kn kc] 129)).alloc (.cells (sRow tblT) 9)).alloc (.cells (sRow bordT) 9)) := below3 _ _ _ _
  have ht2 : TabAt (((w.alloc (.cells #[.int .i64 qk, .int .i64 cs, .string cn, .slice aa an ac, .string r.data, .string r.system, .int .i64 r.inner, .int .i64 r.host, .int .i64 r.up, .slice ka kn kc] 129)).alloc (.cells (sRow tblT) 9)).alloc (.cells (sRow bordT) 9)) (w.heap.size + 1) tblT := tab_2nd _ _ _ _ _
  have ht3 : TabAt (((w.alloc (.cells #[.int .i64 qk, .int .i64 cs, .string cn, .slice aa an ac, .string r.data, .string r.system, .int .i64 r.inner, .int .i64 r.host, .int .i64 r.up, .slice ka kn kc] 129)).alloc (.cells (sRow tblT) 9)).alloc (.cells (sRow bordT) 9)) (w.heap.size + 1 + 1) bordT := tab_3rd _ _ _ _ _
  have hsz : (((w.alloc (.cells #[.int .i64 qk, .int .i64 cs, .string cn, .slice aa an ac, .string r.data, .string r.system, .int .i64 r.inner, .int .i64 r.host, .int .i64 r.up, .slice ka kn kc] 129)).alloc (.cells (sRow tblT) 9)).alloc (.cells (sRow bordT) 9)).heap.size = w.heap.size + 3 := by simp
  have hx1 : (((w.alloc (.cells #[.int .i64 qk, .int .i64 cs, .string cn, .slice aa an ac, .string r.data, .string r.system, .int .i64 r.inner, .int .i64 r.host, .int .i64 r.up, .slice ka kn kc] 129)).alloc (.cells (sRow tblT) 9)).alloc (.cells (sRow bordT) 9)).cell? ⟨w.heap.size, 1, none⟩ = some (.int .i64 cs) := by
    rw [(below2 _ _ _).cell (p := ⟨w.heap.size, 1, none⟩) (by simp)]
    exact cell_row _ w.heap.size 1 _ _ _ (heap_alloc_new w _)
  have hx2 : (((w.alloc (.cells #[.int .i64 qk, .int .i64 cs, .string cn, .slice aa an ac, .string r.data, .string r.system, .int .i64 r.inner, .int .i64 r.host, .int .i64 r.up, .slice ka kn kc] 129)).alloc (.cells (sRow tblT) 9)).alloc (.cells (sRow bordT) 9)).cell? ⟨w.heap.size, 2, none⟩ = some (.string cn) := by
    rw [(below2 _ _ _).cell (p := ⟨w.heap.size, 2, none⟩) (by simp)]
    exact cell_row _ w.heap.size 2 _ _ _ (heap_alloc_new w _)
  have hy0 : (((w.alloc (.cells #[.int .i64 qk, .int .i64 cs, .string cn, .slice aa an ac, .string r.data, .string r.system, .int .i64 r.inner, .int .i64 r.host, .int .i64 r.up, .slice ka kn kc] 129)).alloc (.cells (sRow tblT) 9)).alloc (.cells (sRow bordT) 9)).cell? ⟨bW, 0, none⟩ = some (.pointer (some ⟨bR, 0, none⟩)) := (hb3.cell (p := ⟨bW, 0, none⟩) (lt_cell d0)).trans d0
  have hund : undef = Value.tuple #[] := rfl
  have HF := hide (Fin3.mk (bW := bW) (bR := bR) hb3 (by omega) ht3 hx1 hx2 hy0)
  have HR := hide hr
  have HL := hide hl
  have e0 : borderM ⟨cs, cn⟩ 1 = false := by
    have hl2 := list_none hl
    simp [borderM, plain_f q1 q2 hr, hl2.1, hl2.2]
  rw [e0]
  have HB3 := hide hb3
  clear h hc hb3 ht2 ht3 hsz e0 hr hl hx1 hx2 hy0
  have q1' : ¬ cs = 1 := by simpa using q1
  have q2' : ¬ cs = 2 := by simpa using q2
  go_enter Try.func104, Try.ntmps104
  go_wp2_with (go_at_call 90; refine ((unhide HH).of (unhide HC) ((unhide HB3).alloc (unhide HB3).size (.cells (sRow listT) 9)) (Below.refl _ _) listT (by decide) (w.heap.size + 1 + 1 + 1) (by have := tab_new (((w.alloc (.cells #[.int .i64 qk, .int .i64 cs, .string cn, .slice aa an ac, .string r.data, .string r.system, .int .i64 r.inner, .int .i64 r.host, .int .i64 r.up, .slice ka kn kc] 129)).alloc (.cells (sRow tblT) 9)).alloc (.cells (sRow bordT) 9)) listT 9; simpa using this)).mono ?_; rw [unhide HL]; rintro e w1 ⟨rfl, hb⟩; have hf := (unhide HF).below ((below_new _ _).trans (hb.mono (below_new _ _).size)); have HF := hide hf; have z1 := hf.x1; have z2 := hf.x2; have z0 := hf.y0; clear hf; clear hb)
  first | go_region_with ((go_at_call 90; refine (Fin3.ofB (by first | exact unhide HF | exact (unhide HF).below (Below.refl _ _).drew | exact (unhide HF).below (below_dn (Below.refl _ _) _) | exact (unhide HF).below (Below.refl _ _).drew.drew) (unhide HH) (unhide HC)).mono ?_; rw [unhide HR]; rintro e w2 ⟨rfl, hf⟩; have HF := hide hf; have z1 := hf.x1; have z2 := hf.x2; have z0 := hf.y0; clear hf)) | fail
  all_goals go_wp2
  all_goals go_ret
  all_goals exact ⟨rfl, (unhide HF).b⟩
end
end Go.Proofs.Ytmllhebmaldgfaa
