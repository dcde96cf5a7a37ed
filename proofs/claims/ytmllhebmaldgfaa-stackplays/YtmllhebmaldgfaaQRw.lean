import Derived.Test.YtmllhebmaldgfaaQRi
import Derived.Test.YtmllhebmaldgfaaQRj
import Derived.Test.YtmllhebmaldgfaaQRk
import Derived.Test.YtmllhebmaldgfaaQRn
import Derived.Test.YtmllhebmaldgfaaQRh
import Derived.Test.YtmllhebmaldgfaaQSh
import Derived.Test.YtmllhebmaldgfaaQOa
import Derived.Test.YtmllhebmaldgfaaQQa
/-
  The document's stack: is an element a border of a scope?
-/
namespace Go.Proofs.Ytmllhebmaldgfaa
open Go.RowKit

section
variable {w : World} {base bW bR : Nat} {ks : List Key} {L : List Int}
set_option maxHeartbeats 4000000 in
theorem rborder_1x (h : LiveR w base bW bR ks L) {id : Int} {c : Cal} (hc : elOf ks id = some c) (hl : amongM c 0 listT = true) : Calls Try.prog 104 #[.pointer (some ⟨bW, 0, none⟩), .int .i64 id, .int .i64 1] w fun e w' => e = .returned (.bool (borderM c 1)) ∧ Below w.heap.size w w' := by
  obtain ⟨i, g, cap, n, qk, r, aa, an, ac, ka, kn, kc, rfl, d0, dR, hlt, hm, c0, c1, c2, c3, c4, c5, c6, c7, c8, c9⟩ := h.whole hc
  have hltz : (i : Int) < (n : Int) := by omega
  have hmz : (n : Int) ≤ 32768 := by omega
  obtain ⟨cs, cn⟩ := c
  simp only at *
  have HH := hide h
  have HC := hide hc
  have hb3 : Below w.heap.size w (((w.alloc (.cells #[.int .i64 qk, .int .i64 cs, .string cn, .slice aa an ac, .string r.data, .string r.system, .int .i64 r.inner, .int .i64 r.host, .int .i64 r.up, .slice ka kn kc] 129)).alloc (.cells (sRow tblT) 9)).alloc (.cells (sRow bordT) 9)) := below3 _ _ _ _
  have ht2 : TabAt (((w.alloc (.cells #[.int .i64 qk, .int .i64 cs, .string cn, .slice aa an ac, .string r.data, .string r.system, .int .i64 r.inner, .int .i64 r.host, .int .i64 r.up, .slice ka kn kc] 129)).alloc (.cells (sRow tblT) 9)).alloc (.cells (sRow bordT) 9)) (w.heap.size + 1) tblT := tab_2nd _ _ _ _ _
  have ht3 : TabAt (((w.alloc (.cells #[.int .i64 qk, .int .i64 cs, .string cn, .slice aa an ac, .string r.data, .string r.system, .int .i64 r.inner, .int .i64 r.host, .int .i64 r.up, .slice ka kn kc] 129)).alloc (.cells (sRow tblT) 9)).alloc (.cells (sRow bordT) 9)) (w.heap.size + 1 + 1) bordT := tab_3rd _ _ _ _ _
  have hsz : (((w.alloc (.cells #[.int .i64 qk, .int .i64 cs, .string cn, .slice aa an ac, .string r.data, .string r.system, .int .i64 r.inner, .int .i64 r.host, .int .i64 r.up, .slice ka kn kc] 129)).alloc (.cells (sRow tblT) 9)).alloc (.cells (sRow bordT) 9)).heap.size = w.heap.size + 3 := by simp
  have hx1 : (((w.alloc (.cells #[.int .i64 qk, .int .i64 cs, .string cn, .slice aa an ac, .string r.data, .string r.system, .int .i64 r.inner, .int .i64 r.host, .int .i64 r.up, .slice ka kn kc] 129)).alloc (.cells (sRow tblT) 9)).alloc (.cells (sRow bordT) 9)).cell? ⟨w.heap.size, 1, none⟩ = some (.int .i64 cs) := by
    rw [(below2 _ _ _).cell (p := ⟨w.heap.size, 1, none⟩) (by simp)]
    exact cell_row _ w.heap.size 1 _ _ _ (heap_alloc_new w _)
  have hx2 : (((w.alloc (.cells #[.int .i64 qk, .int .i64 cs, .string cn, .slice aa an ac, .string r.data, .string r.system, .int .i64 r.inner, .int .i64 r.host, .int .i64 r.up, .slice ka kn kc] 129)).alloc (.cells (sRow tblT) 9)).alloc (.cells (sRow bordT) 9)).cell? ⟨w.heap.size, 2, none⟩ = some (.string cn) := by
    rw [(below2 _ _ _).cell (p := ⟨w.heap.size, 2, none⟩) (by simp)]
    exact cell_row _ w.heap.size 2 _ _ _ (heap_alloc_new w _)
  have hy0 : (((w.alloc (.cells #[.int .i64 qk, .int .i64 cs, .string cn, .slice aa an ac, .string r.data, .string r.system, .int .i64 r.inner, .int .i64 r.host, .int .i64 r.up, .slice ka kn kc] 129)).alloc (.cells (sRow tblT) 9)).alloc (.cells (sRow bordT) 9)).cell? ⟨bW, 0, none⟩ = some (.pointer (some ⟨bR, 0, none⟩)) := (hb3.cell (p := ⟨bW, 0, none⟩) (lt_cell d0)).trans d0
  have hund : undef = Value.tuple #[] := rfl
  have HL := hide hl
  have HB3 := hide hb3
  have e0 : borderM ⟨cs, cn⟩ 1 = true := by
    have hl2 := list_some hl
    show (plainM ⟨cs, cn⟩ || namedM ⟨cs, cn⟩ olB || namedM ⟨cs, cn⟩ ulB) = true
    rw [Bool.or_assoc, hl2, Bool.or_true]
  rw [e0]
  clear h hc hb3 ht2 ht3 hsz e0 hl hx1 hx2 hy0
  go_enter Try.func104, Try.ntmps104
  go_wp2_with (go_at_call 90; refine ((unhide HH).of (unhide HC) ((unhide HB3).alloc (unhide HB3).size (.cells (sRow listT) 9)) (Below.refl _ _) listT (by decide) (w.heap.size + 1 + 1 + 1) (by have := tab_new (((w.alloc (.cells #[.int .i64 qk, .int .i64 cs, .string cn, .slice aa an ac, .string r.data, .string r.system, .int .i64 r.inner, .int .i64 r.host, .int .i64 r.up, .slice ka kn kc] 129)).alloc (.cells (sRow tblT) 9)).alloc (.cells (sRow bordT) 9)) listT 9; simpa using this)).mono ?_; rw [unhide HL]; rintro e w1 ⟨rfl, hb⟩; have HB := hide hb; clear hb)
  go_ret
  exact ⟨rfl, ((unhide HB3).alloc (unhide HB3).size _).trans ((unhide HB).mono ((unhide HB3).alloc (unhide HB3).size _).size)⟩
set_option maxHeartbeats 4000000 in
theorem rborder_2x (h : LiveR w base bW bR ks L) {id : Int} {c : Cal} (hc : elOf ks id = some c) (hl : namedM c buttonB = true) : Calls Try.prog 104 #[.pointer (some ⟨bW, 0, none⟩), .int .i64 id, .int .i64 2] w fun e w' => e = .returned (.bool (borderM c 2)) ∧ Below w.heap.size w w' := by
  obtain ⟨i, g, cap, n, qk, r, aa, an, ac, ka, kn, kc, rfl, d0, dR, hlt, hm, c0, c1, c2, c3, c4, c5, c6, c7, c8, c9⟩ := h.whole hc
  have hltz : (i : Int) < (n : Int) := by omega
  have hmz : (n : Int) ≤ 32768 := by omega
  obtain ⟨cs, cn⟩ := c
  simp only at *
  have HH := hide h
  have HC := hide hc
  have hb3 : Below w.heap.size w (((w.alloc (.cells #[.int .i64 qk, .int .i64 cs, .string cn, .slice aa an ac, .string r.data, .string r.system, .int .i64 r.inner, .int .i64 r.host, .int .i64 r.up, .slice ka kn kc] 129)).alloc (.cells (sRow tblT) 9)).alloc (.cells (sRow bordT) 9)) := below3 _ _ _ _
  have ht2 : TabAt (((w.alloc (.cells #[.int .i64 qk, .int .i64 cs, .string cn, .slice aa an ac, .string r.data, .string r.system, .int .i64 r.inner, .int .i64 r.host, .int .i64 r.up, .slice ka kn kc] 129)).alloc (.cells (sRow tblT) 9)).alloc (.cells (sRow bordT) 9)) (w.heap.size + 1) tblT := tab_2nd _ _ _ _ _
  have ht3 : TabAt (((w.alloc (.cells #[.int .i64 qk, .int .i64 cs, .string cn, .slice aa an ac, .string r.data, .string r.system, .int .i64 r.inner, .int .i64 r.host, .int .i64 r.up, .slice ka kn kc] 129)).alloc (.cells (sRow tblT) 9)).alloc (.cells (sRow bordT) 9)) (w.heap.size + 1 + 1) bordT := tab_3rd _ _ _ _ _
  have hsz : (((w.alloc (.cells #[.int .i64 qk, .int .i64 cs, .string cn, .slice aa an ac, .string r.data, .string r.system, .int .i64 r.inner, .int .i64 r.host, .int .i64 r.up, .slice ka kn kc] 129)).alloc (.cells (sRow tblT) 9)).alloc (.cells (sRow bordT) 9)).heap.size = w.heap.size + 3 := by simp
  have hx1 : (((w.alloc (.cells #[.int .i64 qk, .int .i64 cs, .string cn, .slice aa an ac, .string r.data, .string r.system, .int .i64 r.inner, .int .i64 r.host, .int .i64 r.up, .slice ka kn kc] 129)).alloc (.cells (sRow tblT) 9)).alloc (.cells (sRow bordT) 9)).cell? ⟨w.heap.size, 1, none⟩ = some (.int .i64 cs) := by
    rw [(below2 _ _ _).cell (p := ⟨w.heap.size, 1, none⟩) (by simp)]
    exact cell_row _ w.heap.size 1 _ _ _ (heap_alloc_new w _)
  have hx2 : (((w.alloc (.cells #[.int .i64 qk, .int .i64 cs, .string cn, .slice aa an ac, .string r.data, .string r.system, .int .i64 r.inner, .int .i64 r.host, .int .i64 r.up, .slice ka kn kc] 129)).alloc (.cells (sRow tblT) 9)).alloc (.cells (sRow bordT) 9)).cell? ⟨w.heap.size, 2, none⟩ = some (.string cn) := by
    rw [(below2 _ _ _).cell (p := ⟨w.heap.size, 2, none⟩) (by simp)]
    exact cell_row _ w.heap.size 2 _ _ _ (heap_alloc_new w _)
  have hy0 : (((w.alloc (.cells #[.int .i64 qk, .int .i64 cs, .string cn, .slice aa an ac, .string r.data, .string r.system, .int .i64 r.inner, .int .i64 r.host, .int .i64 r.up, .slice ka kn kc] 129)).alloc (.cells (sRow tblT) 9)).alloc (.cells (sRow bordT) 9)).cell? ⟨bW, 0, none⟩ = some (.pointer (some ⟨bR, 0, none⟩)) := (hb3.cell (p := ⟨bW, 0, none⟩) (lt_cell d0)).trans d0
  have hund : undef = Value.tuple #[] := rfl
  have HL := hide hl
  have HB3 := hide hb3
  have e0 : borderM ⟨cs, cn⟩ 2 = true := by
    simp [borderM, hl]
  rw [e0]
  clear h hc hb3 ht2 ht3 hsz e0 hl hx1 hx2 hy0
  go_enter Try.func104, Try.ntmps104
  go_wp2_with (go_at_call 103; refine ((unhide HH).named (unhide HC) (unhide HB3) (Below.refl _ _) buttonB).mono ?_; rw [unhide HL]; rintro e w1 ⟨rfl, hb⟩; have HB := hide hb; clear hb)
  go_ret
  exact ⟨rfl, (unhide HB3).trans ((unhide HB).mono (unhide HB3).size)⟩
theorem rborder_k0 (h : LiveR w base bW bR ks L) {id : Int} {c : Cal} (hc : elOf ks id = some c) : Calls Try.prog 104 #[.pointer (some ⟨bW, 0, none⟩), .int .i64 id, .int .i64 0] w fun e w' => e = .returned (.bool (borderM c 0)) ∧ Below w.heap.size w w' := by
  by_cases h1 : c.space = 1
  · cases hm : hasT mathT c.name with
    | true => exact rborder_01t h hc h1 hm
    | false => exact rborder_01f h hc h1 hm
  · by_cases h2 : c.space = 2
    · cases hm : hasT svgT c.name with
      | true => exact rborder_02t h hc h2 hm
      | false => exact rborder_02f h hc h2 hm
    · have q1 : (c.space == 1) = false := by simpa using h1
      have q2 : (c.space == 2) = false := by simpa using h2
      cases hr : amongM c 0 bordT with
      | true => exact rborder_0t h hc q1 q2 hr
      | false => exact rborder_0f h hc q1 q2 hr
theorem rborder_k1 (h : LiveR w base bW bR ks L) {id : Int} {c : Cal} (hc : elOf ks id = some c) : Calls Try.prog 104 #[.pointer (some ⟨bW, 0, none⟩), .int .i64 id, .int .i64 1] w fun e w' => e = .returned (.bool (borderM c 1)) ∧ Below w.heap.size w w' := by
  cases hl : amongM c 0 listT with
  | true => exact rborder_1x h hc hl
  | false =>
    by_cases h1 : c.space = 1
    · cases hm : hasT mathT c.name with
      | true => exact rborder_11t h hc h1 hm hl
      | false => exact rborder_11f h hc h1 hm hl
    · by_cases h2 : c.space = 2
      · cases hm : hasT svgT c.name with
        | true => exact rborder_12t h hc h2 hm hl
        | false => exact rborder_12f h hc h2 hm hl
      · have q1 : (c.space == 1) = false := by simpa using h1
        have q2 : (c.space == 2) = false := by simpa using h2
        cases hr : amongM c 0 bordT with
        | true => exact rborder_1t h hc q1 q2 hr hl
        | false => exact rborder_1f h hc q1 q2 hr hl
theorem rborder_k2 (h : LiveR w base bW bR ks L) {id : Int} {c : Cal} (hc : elOf ks id = some c) : Calls Try.prog 104 #[.pointer (some ⟨bW, 0, none⟩), .int .i64 id, .int .i64 2] w fun e w' => e = .returned (.bool (borderM c 2)) ∧ Below w.heap.size w w' := by
  cases hl : namedM c buttonB with
  | true => exact rborder_2x h hc hl
  | false =>
    by_cases h1 : c.space = 1
    · cases hm : hasT mathT c.name with
      | true => exact rborder_21t h hc h1 hm hl
      | false => exact rborder_21f h hc h1 hm hl
    · by_cases h2 : c.space = 2
      · cases hm : hasT svgT c.name with
        | true => exact rborder_22t h hc h2 hm hl
        | false => exact rborder_22f h hc h2 hm hl
      · have q1 : (c.space == 1) = false := by simpa using h1
        have q2 : (c.space == 2) = false := by simpa using h2
        cases hr : amongM c 0 bordT with
        | true => exact rborder_2t h hc q1 q2 hr hl
        | false => exact rborder_2f h hc q1 q2 hr hl
/-- All five kinds. -/
theorem rborder_any (h : LiveR w base bW bR ks L) {id : Int} {c : Cal} (hc : elOf ks id = some c) (kind : Int) (h0 : 0 ≤ kind) (h4 : kind ≤ 4) : Calls Try.prog 104 #[.pointer (some ⟨bW, 0, none⟩), .int .i64 id, .int .i64 kind] w fun e w' => e = .returned (.bool (borderM c kind)) ∧ Below w.heap.size w w' := by
  rcases (show kind = 0 ∨ kind = 1 ∨ kind = 2 ∨ kind = 3 ∨ kind = 4 by omega) with rfl | rfl | rfl | rfl | rfl
  · exact rborder_k0 h hc
  · exact rborder_k1 h hc
  · exact rborder_k2 h hc
  · exact rborder_3 h hc
  · exact rborder_4 h hc
theorem bord_is (h : LiveR w base bW bR ks L) (hg : Good ks L) (kind : Int) (h0 : 0 ≤ kind) (h4 : kind ≤ 4) : BordIs w bW ks L kind := fun _ hx _ hb =>
  rborder_any (h.below hb) (hg.cal hx) kind h0 h4
end
end Go.Proofs.Ytmllhebmaldgfaa
/-
  The document's stack: Special.
-/
namespace Go.Proofs.Ytmllhebmaldgfaa
open Go.RowKit

section
variable {w W w1 : World} {base bW bR : Nat} {ks : List Key} {L : List Int} {cs : Int} {cn : ByteArray}
structure Fin1 (w W : World) (cs : Int) (cn : ByteArray) : Prop where
  b : Below w.heap.size w W
  lt : w.heap.size + 1 ≤ W.heap.size
  x1 : W.cell? ⟨w.heap.size, 1, none⟩ = some (.int .i64 cs)
  x2 : W.cell? ⟨w.heap.size, 2, none⟩ = some (.string cn)
theorem Fin1.below (f : Fin1 w W cs cn) (hb : Below W.heap.size W w1) : Fin1 w w1 cs cn :=
  ⟨f.b.trans (hb.mono f.b.size), Nat.le_trans f.lt hb.size, (hb.cell (p := ⟨w.heap.size, 1, none⟩) (by have := f.lt; show w.heap.size < W.heap.size; omega)).trans f.x1, (hb.cell (p := ⟨w.heap.size, 2, none⟩) (by have := f.lt; show w.heap.size < W.heap.size; omega)).trans f.x2⟩
theorem Fin1.mathB (f : Fin1 w W cs cn) : Calls Try.prog 108 #[] W fun e w' => ∃ b, e = .returned (.slice (some ⟨b, 0, none⟩) 6 6) ∧ TabAt w' b mathT ∧ Fin1 w w' cs cn := by
  refine (rMath_any W).mono ?_
  rintro e w' ⟨rfl, ht, hb⟩
  exact ⟨_, rfl, ht, f.below hb⟩
theorem Fin1.mathI (f : Fin1 w W cs cn) (n : ByteArray) (b : Nat) (ht : TabAt W b mathT) : Calls Try.prog 107 #[.slice (some ⟨b, 0, none⟩) 6 6, .string n] W fun e w' => e = .returned (.bool (hasT mathT n)) ∧ Fin1 w w' cs cn := by
  refine (rIn_any mathT (by decide) n b ht).mono ?_
  rintro e w' ⟨rfl, rfl⟩
  exact ⟨rfl, f⟩
theorem Fin1.drawnB (f : Fin1 w W cs cn) : Calls Try.prog 109 #[] W fun e w' => ∃ b, e = .returned (.slice (some ⟨b, 0, none⟩) 3 3) ∧ TabAt w' b svgT ∧ Fin1 w w' cs cn := by
  refine (rDrawn_any W).mono ?_
  rintro e w' ⟨rfl, ht, hb⟩
  exact ⟨_, rfl, ht, f.below hb⟩
theorem Fin1.drawnI (f : Fin1 w W cs cn) (n : ByteArray) (b : Nat) (ht : TabAt W b svgT) : Calls Try.prog 107 #[.slice (some ⟨b, 0, none⟩) 3 3, .string n] W fun e w' => e = .returned (.bool (hasT svgT n)) ∧ Fin1 w w' cs cn := by
  refine (rIn_any svgT (by decide) n b ht).mono ?_
  rintro e w' ⟨rfl, rfl⟩
  exact ⟨rfl, f⟩
theorem Fin1.specialB (f : Fin1 w W cs cn) : Calls Try.prog 110 #[] W fun e w' => ∃ b, e = .returned (.slice (some ⟨b, 0, none⟩) 83 83) ∧ TabAt w' b specT ∧ Fin1 w w' cs cn := by
  refine (rSpecials_any W).mono ?_
  rintro e w' ⟨rfl, ht, hb⟩
  exact ⟨_, rfl, ht, f.below hb⟩
theorem Fin1.specialI (f : Fin1 w W cs cn) (n : ByteArray) (b : Nat) (ht : TabAt W b specT) : Calls Try.prog 107 #[.slice (some ⟨b, 0, none⟩) 83 83, .string n] W fun e w' => e = .returned (.bool (hasT specT n)) ∧ Fin1 w w' cs cn := by
  refine (rIn_any specT (by decide) n b ht).mono ?_
  rintro e w' ⟨rfl, rfl⟩
  exact ⟨rfl, f⟩

set_option maxHeartbeats 4000000 in
theorem rSpecial_1 (h : LiveR w base bW bR ks L) {id : Int} {c : Cal} (hc : elOf ks id = some c) (hcs : c.space = 1) : Calls Try.prog 54 #[.pointer (some ⟨bW, 0, none⟩), .int .i64 id] w fun e w' => e = .returned (.bool (specM ks id)) ∧ Below w.heap.size w w' := by
  have HE : Hid (Calls Try.prog 99 #[.pointer (some ⟨bR, 0, none⟩), .int .i64 id] w fun e w' => e = .returned (.bool true) ∧ w = w') := hide (by
    have := rElement_any h.ar.choose_spec id
    rw [hc] at this
    exact this)
  obtain ⟨i, g, cap, n, qk, r, aa, an, ac, ka, kn, kc, rfl, d0, dR, hlt, hm, c0, c1, c2, c3, c4, c5, c6, c7, c8, c9⟩ := h.whole hc
  have hltz : (i : Int) < (n : Int) := by omega
  have hmz : (n : Int) ≤ 32768 := by omega
  have e0 : specM ks (i : Int) = hasT mathT c.name := by
    unfold specM calOf
    rw [hc]
    simp [specialM, foreignM, amongM, hcs]
  rw [e0]
  obtain ⟨cs, cn⟩ := c
  simp only at *
  subst hcs
  have hx1 : (w.alloc (.cells #[.int .i64 qk, .int .i64 1, .string cn, .slice aa an ac, .string r.data, .string r.system, .int .i64 r.inner, .int .i64 r.host, .int .i64 r.up, .slice ka kn kc] 129)).cell? ⟨w.heap.size, 1, none⟩ = some (.int .i64 1) := cell_row _ w.heap.size 1 _ _ _ (heap_alloc_new w _)
  have hx2 : (w.alloc (.cells #[.int .i64 qk, .int .i64 1, .string cn, .slice aa an ac, .string r.data, .string r.system, .int .i64 r.inner, .int .i64 r.host, .int .i64 r.up, .slice ka kn kc] 129)).cell? ⟨w.heap.size, 2, none⟩ = some (.string cn) := cell_row _ w.heap.size 2 _ _ _ (heap_alloc_new w _)
  have HF := hide (Fin1.mk (below_new w (.cells #[.int .i64 qk, .int .i64 1, .string cn, .slice aa an ac, .string r.data, .string r.system, .int .i64 r.inner, .int .i64 r.host, .int .i64 r.up, .slice ka kn kc] 129)) (by simp) hx1 hx2)
  have hund : undef = Value.tuple #[] := rfl
  clear h hc e0 hx1 hx2
  go_enter Try.func54, Try.ntmps54
  go_wp2_with (first | (go_at_call 99; refine (unhide HE).mono ?_; rintro e w1 ⟨rfl, rfl⟩) | (go_at_call 108; refine (Fin1.mathB (by first | exact unhide HF | exact (unhide HF).below (Below.refl _ _).drew | exact (unhide HF).below (below_dn (Below.refl _ _) _) | exact (unhide HF).below (Below.refl _ _).drew.drew)).mono ?_; rintro e w3 ⟨bt, rfl, ht, hf⟩; have HF := hide hf; have z1 := hf.x1; have z2 := hf.x2; clear hf; have HT := hide ht; clear ht) | (go_at_call 107; refine (Fin1.mathI (by first | exact unhide HF | exact (unhide HF).below (Below.refl _ _).drew | exact (unhide HF).below (below_dn (Below.refl _ _) _) | exact (unhide HF).below (Below.refl _ _).drew.drew) _ bt (by first | exact unhide HT | exact (unhide HT).below (Below.refl _ _).drew | exact (unhide HT).below (below_dn (Below.refl _ _) _) | exact (unhide HT).below (Below.refl _ _).drew.drew)).mono ?_; rintro e w4 ⟨rfl, hf⟩; have HF := hide hf; have z1 := hf.x1; have z2 := hf.x2; clear hf))
  all_goals try (first | go_region_with (first | (go_at_call 107; refine (Fin1.mathI (by first | exact unhide HF | exact (unhide HF).below (Below.refl _ _).drew | exact (unhide HF).below (below_dn (Below.refl _ _) _) | exact (unhide HF).below (Below.refl _ _).drew.drew) _ bt (by first | exact unhide HT | exact (unhide HT).below (Below.refl _ _).drew | exact (unhide HT).below (below_dn (Below.refl _ _) _) | exact (unhide HT).below (Below.refl _ _).drew.drew)).mono ?_; rintro e w4 ⟨rfl, hf⟩; have HF := hide hf; have z1 := hf.x1; have z2 := hf.x2; clear hf) | (go_at_call 108; refine (Fin1.mathB (by first | exact unhide HF | exact (unhide HF).below (Below.refl _ _).drew | exact (unhide HF).below (below_dn (Below.refl _ _) _) | exact (unhide HF).below (Below.refl _ _).drew.drew)).mono ?_; rintro e w3 ⟨bt, rfl, ht, hf⟩; have HF := hide hf; have z1 := hf.x1; have z2 := hf.x2; clear hf; have HT := hide ht; clear ht)) | fail)
  all_goals go_wp2
  all_goals go_ret
  all_goals exact ⟨rfl, (unhide HF).b⟩

set_option maxHeartbeats 4000000 in
theorem rSpecial_2 (h : LiveR w base bW bR ks L) {id : Int} {c : Cal} (hc : elOf ks id = some c) (hcs : c.space = 2) : Calls Try.prog 54 #[.pointer (some ⟨bW, 0, none⟩), .int .i64 id] w fun e w' => e = .returned (.bool (specM ks id)) ∧ Below w.heap.size w w' := by
  have HE : Hid (Calls Try.prog 99 #[.pointer (some ⟨bR, 0, none⟩), .int .i64 id] w fun e w' => e = .returned (.bool true) ∧ w = w') := hide (by
    have := rElement_any h.ar.choose_spec id
    rw [hc] at this
    exact this)
  obtain ⟨i, g, cap, n, qk, r, aa, an, ac, ka, kn, kc, rfl, d0, dR, hlt, hm, c0, c1, c2, c3, c4, c5, c6, c7, c8, c9⟩ := h.whole hc
  have hltz : (i : Int) < (n : Int) := by omega
  have hmz : (n : Int) ≤ 32768 := by omega
  have e0 : specM ks (i : Int) = hasT svgT c.name := by
    unfold specM calOf
    rw [hc]
    simp [specialM, foreignM, amongM, hcs]
  rw [e0]
  obtain ⟨cs, cn⟩ := c
  simp only at *
  subst hcs
  have hx1 : (w.alloc (.cells #[.int .i64 qk, .int .i64 2, .string cn, .slice aa an ac, .string r.data, .string r.system, .int .i64 r.inner, .int .i64 r.host, .int .i64 r.up, .slice ka kn kc] 129)).cell? ⟨w.heap.size, 1, none⟩ = some (.int .i64 2) := cell_row _ w.heap.size 1 _ _ _ (heap_alloc_new w _)
  have hx2 : (w.alloc (.cells #[.int .i64 qk, .int .i64 2, .string cn, .slice aa an ac, .string r.data, .string r.system, .int .i64 r.inner, .int .i64 r.host, .int .i64 r.up, .slice ka kn kc] 129)).cell? ⟨w.heap.size, 2, none⟩ = some (.string cn) := cell_row _ w.heap.size 2 _ _ _ (heap_alloc_new w _)
  have HF := hide (Fin1.mk (below_new w (.cells #[.int .i64 qk, .int .i64 2, .string cn, .slice aa an ac, .string r.data, .string r.system, .int .i64 r.inner, .int .i64 r.host, .int .i64 r.up, .slice ka kn kc] 129)) (by simp) hx1 hx2)
  have hund : undef = Value.tuple #[] := rfl
  clear h hc e0 hx1 hx2
  go_enter Try.func54, Try.ntmps54
  go_wp2_with (first | (go_at_call 99; refine (unhide HE).mono ?_; rintro e w1 ⟨rfl, rfl⟩) | (go_at_call 109; refine (Fin1.drawnB (by first | exact unhide HF | exact (unhide HF).below (Below.refl _ _).drew | exact (unhide HF).below (below_dn (Below.refl _ _) _) | exact (unhide HF).below (Below.refl _ _).drew.drew)).mono ?_; rintro e w3 ⟨bt, rfl, ht, hf⟩; have HF := hide hf; have z1 := hf.x1; have z2 := hf.x2; clear hf; have HT := hide ht; clear ht) | (go_at_call 107; refine (Fin1.drawnI (by first | exact unhide HF | exact (unhide HF).below (Below.refl _ _).drew | exact (unhide HF).below (below_dn (Below.refl _ _) _) | exact (unhide HF).below (Below.refl _ _).drew.drew) _ bt (by first | exact unhide HT | exact (unhide HT).below (Below.refl _ _).drew | exact (unhide HT).below (below_dn (Below.refl _ _) _) | exact (unhide HT).below (Below.refl _ _).drew.drew)).mono ?_; rintro e w4 ⟨rfl, hf⟩; have HF := hide hf; have z1 := hf.x1; have z2 := hf.x2; clear hf))
  all_goals try (first | go_region_with (first | (go_at_call 107; refine (Fin1.drawnI (by first | exact unhide HF | exact (unhide HF).below (Below.refl _ _).drew | exact (unhide HF).below (below_dn (Below.refl _ _) _) | exact (unhide HF).below (Below.refl _ _).drew.drew) _ bt (by first | exact unhide HT | exact (unhide HT).below (Below.refl _ _).drew | exact (unhide HT).below (below_dn (Below.refl _ _) _) | exact (unhide HT).below (Below.refl _ _).drew.drew)).mono ?_; rintro e w4 ⟨rfl, hf⟩; have HF := hide hf; have z1 := hf.x1; have z2 := hf.x2; clear hf) | (go_at_call 109; refine (Fin1.drawnB (by first | exact unhide HF | exact (unhide HF).below (Below.refl _ _).drew | exact (unhide HF).below (below_dn (Below.refl _ _) _) | exact (unhide HF).below (Below.refl _ _).drew.drew)).mono ?_; rintro e w3 ⟨bt, rfl, ht, hf⟩; have HF := hide hf; have z1 := hf.x1; have z2 := hf.x2; clear hf; have HT := hide ht; clear ht)) | fail)
  all_goals go_wp2
  all_goals go_ret
  all_goals exact ⟨rfl, (unhide HF).b⟩

set_option maxHeartbeats 4000000 in
theorem rSpecial_0 (h : LiveR w base bW bR ks L) {id : Int} {c : Cal} (hc : elOf ks id = some c) (hcs : c.space = 0) : Calls Try.prog 54 #[.pointer (some ⟨bW, 0, none⟩), .int .i64 id] w fun e w' => e = .returned (.bool (specM ks id)) ∧ Below w.heap.size w w' := by
  have HE : Hid (Calls Try.prog 99 #[.pointer (some ⟨bR, 0, none⟩), .int .i64 id] w fun e w' => e = .returned (.bool true) ∧ w = w') := hide (by
    have := rElement_any h.ar.choose_spec id
    rw [hc] at this
    exact this)
  obtain ⟨i, g, cap, n, qk, r, aa, an, ac, ka, kn, kc, rfl, d0, dR, hlt, hm, c0, c1, c2, c3, c4, c5, c6, c7, c8, c9⟩ := h.whole hc
  have hltz : (i : Int) < (n : Int) := by omega
  have hmz : (n : Int) ≤ 32768 := by omega
  have e0 : specM ks (i : Int) = hasT specT c.name := by
    unfold specM calOf
    rw [hc]
    simp [specialM, foreignM, amongM, hcs]
  rw [e0]
  obtain ⟨cs, cn⟩ := c
  simp only at *
  subst hcs
  have hx1 : (w.alloc (.cells #[.int .i64 qk, .int .i64 0, .string cn, .slice aa an ac, .string r.data, .string r.system, .int .i64 r.inner, .int .i64 r.host, .int .i64 r.up, .slice ka kn kc] 129)).cell? ⟨w.heap.size, 1, none⟩ = some (.int .i64 0) := cell_row _ w.heap.size 1 _ _ _ (heap_alloc_new w _)
  have hx2 : (w.alloc (.cells #[.int .i64 qk, .int .i64 0, .string cn, .slice aa an ac, .string r.data, .string r.system, .int .i64 r.inner, .int .i64 r.host, .int .i64 r.up, .slice ka kn kc] 129)).cell? ⟨w.heap.size, 2, none⟩ = some (.string cn) := cell_row _ w.heap.size 2 _ _ _ (heap_alloc_new w _)
  have HF := hide (Fin1.mk (below_new w (.cells #[.int .i64 qk, .int .i64 0, .string cn, .slice aa an ac, .string r.data, .string r.system, .int .i64 r.inner, .int .i64 r.host, .int .i64 r.up, .slice ka kn kc] 129)) (by simp) hx1 hx2)
  have hund : undef = Value.tuple #[] := rfl
  clear h hc e0 hx1 hx2
  go_enter Try.func54, Try.ntmps54
  go_wp2_with (first | (go_at_call 99; refine (unhide HE).mono ?_; rintro e w1 ⟨rfl, rfl⟩) | (go_at_call 110; refine (Fin1.specialB (by first | exact unhide HF | exact (unhide HF).below (Below.refl _ _).drew | exact (unhide HF).below (below_dn (Below.refl _ _) _) | exact (unhide HF).below (Below.refl _ _).drew.drew)).mono ?_; rintro e w3 ⟨bt, rfl, ht, hf⟩; have HF := hide hf; have z1 := hf.x1; have z2 := hf.x2; clear hf; have HT := hide ht; clear ht) | (go_at_call 107; refine (Fin1.specialI (by first | exact unhide HF | exact (unhide HF).below (Below.refl _ _).drew | exact (unhide HF).below (below_dn (Below.refl _ _) _) | exact (unhide HF).below (Below.refl _ _).drew.drew) _ bt (by first | exact unhide HT | exact (unhide HT).below (Below.refl _ _).drew | exact (unhide HT).below (below_dn (Below.refl _ _) _) | exact (unhide HT).below (Below.refl _ _).drew.drew)).mono ?_; rintro e w4 ⟨rfl, hf⟩; have HF := hide hf; have z1 := hf.x1; have z2 := hf.x2; clear hf))
  all_goals try (first | go_region_with (first | (go_at_call 107; refine (Fin1.specialI (by first | exact unhide HF | exact (unhide HF).below (Below.refl _ _).drew | exact (unhide HF).below (below_dn (Below.refl _ _) _) | exact (unhide HF).below (Below.refl _ _).drew.drew) _ bt (by first | exact unhide HT | exact (unhide HT).below (Below.refl _ _).drew | exact (unhide HT).below (below_dn (Below.refl _ _) _) | exact (unhide HT).below (Below.refl _ _).drew.drew)).mono ?_; rintro e w4 ⟨rfl, hf⟩; have HF := hide hf; have z1 := hf.x1; have z2 := hf.x2; clear hf) | (go_at_call 110; refine (Fin1.specialB (by first | exact unhide HF | exact (unhide HF).below (Below.refl _ _).drew | exact (unhide HF).below (below_dn (Below.refl _ _) _) | exact (unhide HF).below (Below.refl _ _).drew.drew)).mono ?_; rintro e w3 ⟨bt, rfl, ht, hf⟩; have HF := hide hf; have z1 := hf.x1; have z2 := hf.x2; clear hf; have HT := hide ht; clear ht)) | fail)
  all_goals go_wp2
  all_goals go_ret
  all_goals exact ⟨rfl, (unhide HF).b⟩

set_option maxHeartbeats 1000000 in
theorem rSpecial_any (h : LiveR w base bW bR ks L) (id : Int) (hsp : ∀ c, elOf ks id = some c → c.space = 0 ∨ c.space = 1 ∨ c.space = 2) : Calls Try.prog 54 #[.pointer (some ⟨bW, 0, none⟩), .int .i64 id] w fun e w' => e = .returned (.bool (specM ks id)) ∧ Below w.heap.size w w' := by
  cases hc : elOf ks id with
  | some c =>
    rcases hsp c hc with e | e | e
    · exact rSpecial_0 h hc e
    · exact rSpecial_1 h hc e
    · exact rSpecial_2 h hc e
  | none =>
    have HE : Hid (Calls Try.prog 99 #[.pointer (some ⟨bR, 0, none⟩), .int .i64 id] w fun e w' => e = .returned (.bool false) ∧ w = w') := hide (by
      have := rElement_any h.ar.choose_spec id
      rw [hc] at this
      exact this)
    have e0 : specM ks id = false := by unfold specM; rw [hc]; rfl
    rw [e0]
    obtain ⟨_, F, p, hs, _, _⟩ := h
    have c0 := hs.cells.1
    clear hs hc hsp e0
    go_enter Try.func54, Try.ntmps54
    go_wp2_with (go_at_call 99; refine (unhide HE).mono ?_; rintro e w1 ⟨rfl, rfl⟩)
    go_ret
    exact ⟨rfl, Below.refl _ _⟩
end
end Go.Proofs.Ytmllhebmaldgfaa
/-
  The document's stack among the objects; lists stay good.
-/
namespace Go.Proofs.Ytmllhebmaldgfaa
open Go.RowKit

def rsOb (base bW bR : Nat) (L : List Int) : Ob base := ⟨fun w F => RstS w base bW bR L F, fun _ _ _ h hk => h.lt hk, fun _ _ _ _ h hm hG => h.mod hm hG⟩

section
variable {w wx : World} {obs : List (Ob w.heap.size)}
/-- A stack of the document's and its arena. -/
theorem Env.twoR (h : Env w wx obs) {i j bW bR : Nat} {ks : List Key} {L : List Int} (hi : obs[i]? = some (rfOb _ bR ks)) (hj : obs[j]? = some (rsOb _ bW bR L)) (hij : i ≠ j) :
    ∃ FA F, RfK wx w.heap.size bR ks FA ∧ RstS wx w.heap.size bW bR L F ∧ (∀ k, FA k → ¬ F k) ∧ ∀ w2 L2, UpdW F wx w2 w.heap.size bW bR L2 → Env w w2 (obs.set j (rsOb _ bW bR L2)) := by
  obtain ⟨F, ho, hd, hk⟩ := h.upd hj
  obtain ⟨FA, ha, hdis⟩ := hd i _ hij hi
  refine ⟨FA, F, ha, ho, hdis, fun w2 L2 hu => ?_⟩
  obtain ⟨F', h1, h2, h3⟩ := hu
  exact hk w2 (rsOb _ bW bR L2) F' h1 h2 h3
theorem env_rsnew (h : Env w wx obs) (bR : Nat) : Calls Try.prog 11 #[.pointer (some ⟨bR, 0, none⟩)] wx fun e w' => ∃ bW, e = .returned (.pointer (some ⟨bW, 0, none⟩)) ∧ Env w w' (obs ++ [rsOb _ bW bR []]) := by
  refine (rNew_any h.bel.size).mono ?_
  rintro e w' ⟨bW, F, rfl, h1, h2, h3⟩
  exact ⟨bW, rfl, h.add h2 (o := rsOb _ bW bR []) h1 h3⟩
section
variable {i j bW bR : Nat} {ks : List Key} {L : List Int}
theorem env_rpush (h : Env w wx obs) (hi : obs[i]? = some (rfOb _ bR ks)) (hj : obs[j]? = some (rsOb _ bW bR L)) (hij : i ≠ j) (hg : Good ks L) (id : Int) :
    Calls Try.prog 39 #[.pointer (some ⟨bW, 0, none⟩), .int .i64 id] wx fun e w' => e = .returned (.int .i64 (enterE ks L id)) ∧ Env w w' (obs.set j (rsOb _ bW bR (pushL ks L id))) := by
  obtain ⟨FA, F, h1, h2, _, h4⟩ := h.twoR hi hj hij
  exact (rPush_any h1 h2 hg id).mono fun _ _ ⟨a, b⟩ => ⟨a, h4 _ _ b⟩
theorem env_rpop (h : Env w wx obs) (hi : obs[i]? = some (rfOb _ bR ks)) (hj : obs[j]? = some (rsOb _ bW bR L)) (hij : i ≠ j) (hg : Good ks L) :
    Calls Try.prog 40 #[.pointer (some ⟨bW, 0, none⟩)] wx fun e w' => e = .returned (.int .i64 (topM L)) ∧ Env w w' (obs.set j (rsOb _ bW bR (popL L))) := by
  obtain ⟨FA, F, h1, h2, _, h4⟩ := h.twoR hi hj hij
  exact (rPop_any h2 ((LiveR.mk' h1 h2).few hg)).mono fun _ _ ⟨a, b⟩ => ⟨a, h4 _ _ b⟩
theorem env_rremove (h : Env w wx obs) (hi : obs[i]? = some (rfOb _ bR ks)) (hj : obs[j]? = some (rsOb _ bW bR L)) (hij : i ≠ j) (hg : Good ks L) (id : Int) :
    Calls Try.prog 42 #[.pointer (some ⟨bW, 0, none⟩), .int .i64 id] wx fun e w' => e = .returned (.int .i64 (removeE L id)) ∧ Env w w' (obs.set j (rsOb _ bW bR (removeL L id))) := by
  obtain ⟨FA, F, h1, h2, _, h4⟩ := h.twoR hi hj hij
  exact (rRemove_any h2 ((LiveR.mk' h1 h2).few hg) hg.nodup id).mono fun _ _ ⟨a, b⟩ => ⟨a, h4 _ _ b⟩
theorem env_rput (h : Env w wx obs) (hi : obs[i]? = some (rfOb _ bR ks)) (hj : obs[j]? = some (rsOb _ bW bR L)) (hij : i ≠ j) (hg : Good ks L) (at' id : Int) :
    Calls Try.prog 44 #[.pointer (some ⟨bW, 0, none⟩), .int .i64 at', .int .i64 id] wx fun e w' => e = .returned (.int .i64 (putE ks L at' id)) ∧ Env w w' (obs.set j (rsOb _ bW bR (putL ks L at' id))) := by
  obtain ⟨FA, F, h1, h2, _, h4⟩ := h.twoR hi hj hij
  exact (rPut_any h1 h2 hg at' id).mono fun _ _ ⟨a, b⟩ => ⟨a, h4 _ _ b⟩
theorem env_rswap (h : Env w wx obs) (hi : obs[i]? = some (rfOb _ bR ks)) (hj : obs[j]? = some (rsOb _ bW bR L)) (hij : i ≠ j) (hg : Good ks L) (old id : Int) :
    Calls Try.prog 46 #[.pointer (some ⟨bW, 0, none⟩), .int .i64 old, .int .i64 id] wx fun e w' => e = .returned (.int .i64 (swapE ks L old id)) ∧ Env w w' (obs.set j (rsOb _ bW bR (swapL ks L old id))) := by
  obtain ⟨FA, F, h1, h2, _, h4⟩ := h.twoR hi hj hij
  exact (rSwap_any h1 h2 hg old id).mono fun _ _ ⟨a, b⟩ => ⟨a, h4 _ _ b⟩
theorem env_rpopTo (h : Env w wx obs) (hi : obs[i]? = some (rfOb _ bR ks)) (hj : obs[j]? = some (rsOb _ bW bR L)) (hij : i ≠ j) (hg : Good ks L) (name : ByteArray) :
    Calls Try.prog 50 #[.pointer (some ⟨bW, 0, none⟩), .string name] wx fun e w' => e = .returned (.bool (popToI ks L name).isSome) ∧ Env w w' (obs.set j (rsOb _ bW bR (popToL ks L name))) := by
  obtain ⟨FA, F, h1, h2, _, h4⟩ := h.twoR hi hj hij
  exact (rPopTo_any h1 h2 hg name).mono fun _ _ ⟨a, b⟩ => ⟨a, h4 _ _ b⟩
theorem env_rthorough (h : Env w wx obs) (hi : obs[i]? = some (rfOb _ bR ks)) (hj : obs[j]? = some (rsOb _ bW bR L)) (hij : i ≠ j) (hg : Good ks L) :
    Calls Try.prog 52 #[.pointer (some ⟨bW, 0, none⟩)] wx fun e w' => e = .returned (.int .i64 ((L.length : Int) - (thorN ks L : Int))) ∧ Env w w' (obs.set j (rsOb _ bW bR (L.take (thorN ks L)))) := by
  obtain ⟨FA, F, h1, h2, h3, h4⟩ := h.twoR hi hj hij
  exact (rThorough_any h1 h2 h3 hg).mono fun _ _ ⟨a, b⟩ => ⟨a, h4 _ _ b⟩
theorem env_rscope (h : Env w wx obs) (hi : obs[i]? = some (rfOb _ bR ks)) (hj : obs[j]? = some (rsOb _ bW bR L)) (hij : i ≠ j) (hg : Good ks L) (name : ByteArray) (kind : Int) :
    Calls Try.prog 47 #[.pointer (some ⟨bW, 0, none⟩), .string name, .int .i64 kind] wx fun e w' => e = .returned (.bool (scopeM ks L name kind)) ∧ Env w w' obs := by
  obtain ⟨FA, F, h1, h2, _, _⟩ := h.twoR hi hj hij
  exact (rScope_any h1 h2 hg name kind (bord_is (LiveR.mk' h1 h2) hg kind)).mono fun _ _ ⟨a, b⟩ => ⟨a, h.more b⟩
theorem env_rnodeScope (h : Env w wx obs) (hi : obs[i]? = some (rfOb _ bR ks)) (hj : obs[j]? = some (rsOb _ bW bR L)) (hij : i ≠ j) (hg : Good ks L) (id kind : Int) :
    Calls Try.prog 49 #[.pointer (some ⟨bW, 0, none⟩), .int .i64 id, .int .i64 kind] wx fun e w' => e = .returned (.bool (nodeScopeM ks L id kind)) ∧ Env w w' obs := by
  obtain ⟨FA, F, h1, h2, _, _⟩ := h.twoR hi hj hij
  exact (rNodeScope_any h1 h2 hg id kind (bord_is (LiveR.mk' h1 h2) hg kind)).mono fun _ _ ⟨a, b⟩ => ⟨a, h.more b⟩
theorem env_rspecial (h : Env w wx obs) (hi : obs[i]? = some (rfOb _ bR ks)) (hj : obs[j]? = some (rsOb _ bW bR L)) (hij : i ≠ j) (id : Int) (hsp : ∀ c, elOf ks id = some c → c.space = 0 ∨ c.space = 1 ∨ c.space = 2) :
    Calls Try.prog 54 #[.pointer (some ⟨bW, 0, none⟩), .int .i64 id] wx fun e w' => e = .returned (.bool (specM ks id)) ∧ Env w w' obs := by
  obtain ⟨FA, F, h1, h2, _, _⟩ := h.twoR hi hj hij
  exact (rSpecial_any (LiveR.mk' h1 h2) id hsp).mono fun _ _ ⟨a, b⟩ => ⟨a, h.more b⟩
theorem env_rat (h : Env w wx obs) (hi : obs[i]? = some (rfOb _ bR ks)) (hj : obs[j]? = some (rsOb _ bW bR L)) (hij : i ≠ j) (x : Int) :
    Calls Try.prog 58 #[.pointer (some ⟨bW, 0, none⟩), .int .i64 x] wx fun e w' => e = .returned (.int .i64 (atM L x)) ∧ wx = w' := by
  obtain ⟨FA, F, _, h2, _, _⟩ := h.twoR hi hj hij
  exact rAt_any h2 x
theorem env_rtop (h : Env w wx obs) (hi : obs[i]? = some (rfOb _ bR ks)) (hj : obs[j]? = some (rsOb _ bW bR L)) (hij : i ≠ j) (hg : Good ks L) :
    Calls Try.prog 59 #[.pointer (some ⟨bW, 0, none⟩)] wx fun e w' => e = .returned (.int .i64 (topM L)) ∧ wx = w' := by
  obtain ⟨FA, F, h1, h2, _, _⟩ := h.twoR hi hj hij
  exact rTop_any h2 ((LiveR.mk' h1 h2).few hg)
theorem env_rfind (h : Env w wx obs) (hi : obs[i]? = some (rfOb _ bR ks)) (hj : obs[j]? = some (rsOb _ bW bR L)) (hij : i ≠ j) (hg : Good ks L) (x : Int) :
    Calls Try.prog 14 #[.pointer (some ⟨bW, 0, none⟩), .int .i64 x] wx fun e w' => e = .returned (.int .i64 (findM L x)) ∧ wx = w' := by
  obtain ⟨FA, F, h1, h2, _, _⟩ := h.twoR hi hj hij
  exact rFind_any h2 ((LiveR.mk' h1 h2).few hg) hg.nodup x
end
end

section
variable {ks : List Key} {L : List Int}
theorem enter_ok {id : Int} (h : enterE ks L id = 0) : (elOf ks id).isSome = true ∧ id ∉ L := by
  unfold enterE at h
  split at h
  · split at h
    · cases h
    · exact ⟨by assumption, by assumption⟩
  · cases h
theorem Good.push (hg : Good ks L) (id : Int) : Good ks (pushL ks L id) := by
  unfold pushL
  split
  · rename_i h
    obtain ⟨h1, h2⟩ := enter_ok h
    refine ⟨List.nodup_append.2 ⟨hg.nodup, by simp, fun a ha b hb e => ?_⟩, fun x hx => ?_⟩
    · simp at hb; subst hb; subst e; exact h2 ha
    · rcases List.mem_append.1 hx with h | h
      · exact hg.el x h
      · simp at h; subst h; exact h1
  · exact hg
theorem Good.pop (hg : Good ks L) : Good ks (popL L) := hg.sub (List.take_sublist _ _)
theorem Good.cut (hg : Good ks L) (n : Nat) : Good ks (L.take n) := hg.sub (List.take_sublist _ _)
theorem Good.remove (hg : Good ks L) (id : Int) : Good ks (removeL L id) := by
  unfold removeL
  split
  · refine hg.sub ?_
    have := (List.Sublist.refl (L.take (L.idxOf id))).append (List.drop_sublist_drop_left L (Nat.le_succ (L.idxOf id)))
    rwa [List.take_append_drop] at this
  · exact hg
theorem Good.put (hg : Good ks L) (i id : Int) : Good ks (putL ks L i id) := by
  unfold putL
  split
  · rename_i h
    have he : enterE ks L id = 0 := by
      unfold putE at h
      split at h
      · assumption
      · exact h
    obtain ⟨h1, h2⟩ := enter_ok he
    have hp : (L.take i.toNat ++ id :: L.drop i.toNat).Perm (id :: L) := by
      have := List.perm_middle (a := id) (l₁ := L.take i.toNat) (l₂ := L.drop i.toNat)
      rwa [List.take_append_drop] at this
    refine ⟨hp.nodup_iff.2 (List.nodup_cons.2 ⟨h2, hg.nodup⟩), fun x hx => ?_⟩
    rcases List.mem_cons.1 (hp.subset hx) with rfl | h
    · exact h1
    · exact hg.el x h
  · exact hg
theorem Good.swap (hg : Good ks L) (old id : Int) : Good ks (swapL ks L old id) := by
  unfold swapL
  split
  · rename_i h
    have he : enterE ks L id = 0 := by
      unfold swapE at h
      split at h
      · exact h
      · cases h
    obtain ⟨h1, h2⟩ := enter_ok he
    refine ⟨?_, fun x hx => ?_⟩
    · rw [List.set_eq_take_append_cons_drop]
      split
      · have hp := List.perm_middle (a := id) (l₁ := L.take (L.idxOf old)) (l₂ := L.drop (L.idxOf old + 1))
        have hs : (L.take (L.idxOf old) ++ L.drop (L.idxOf old + 1)).Sublist L := by
          have := (List.Sublist.refl (L.take (L.idxOf old))).append (List.drop_sublist_drop_left L (Nat.le_succ (L.idxOf old)))
          rwa [List.take_append_drop] at this
        exact hp.nodup_iff.2 (List.nodup_cons.2 ⟨fun hm => h2 (hs.subset hm), hg.nodup.sublist hs⟩)
      · exact hg.nodup
    · rcases List.mem_or_eq_of_mem_set hx with h | rfl
      · exact hg.el x h
      · exact h1
  · exact hg
theorem Good.popTo (hg : Good ks L) (name : ByteArray) : Good ks (popToL ks L name) := by
  unfold popToL
  split
  · exact hg.cut _
  · exact hg
end
/-- Both arenas and both stacks. -/
def E4 (w wx : World) (bA bR bK bW : Nat) (ks : List Key) (L M : List Int) : Prop := Env w wx [arOb _ bA ks, rfOb _ bR ks, stOb _ bK bA ks L, rsOb _ bW bR M]
theorem op_block {W : World} {K : Nat} {x a b n : Value} {t : Value} {ty : TypeId} (h : W.heap[K]? = some (.cells #[x, a, b, n, t] ty (0, 0))) : W.cell? ⟨K, 1, none⟩ = some a ∧ W.cell? ⟨K, 2, none⟩ = some b ∧ W.cell? ⟨K, 3, none⟩ = some n ∧ W.cell? ⟨K, 4, none⟩ = some t :=
  ⟨cell_row _ K 1 _ _ _ h, cell_row _ K 2 _ _ _ h, cell_row _ K 3 _ _ _ h, cell_row _ K 4 _ _ _ h⟩
end Go.Proofs.Ytmllhebmaldgfaa
/-
  The law's same: both stacks have the same elements.
-/
namespace Go.Proofs.Ytmllhebmaldgfaa
open Go.RowKit

section
variable {w wx : World} {bA bR bK bW : Nat} {ks : List Key} {L : List Int}
set_option maxHeartbeats 4000000 in
theorem same_any (h : Env w wx [arOb _ bA ks, rfOb _ bR ks, stOb _ bK bA ks L, rsOb _ bW bR L]) (hg : Good ks L) : Calls Try.prog 15 #[.pointer (some ⟨bK, 0, none⟩), .pointer (some ⟨bW, 0, none⟩)] wx fun e w' => e = .returned (.bool true) ∧ Env w w' [arOb _ bA ks, rfOb _ bR ks, stOb _ bK bA ks L, rsOb _ bW bR L] := by
  obtain ⟨FA, F, h1, h2, _, _⟩ := h.twoR (i := 1) (j := 3) (bW := bW) (bR := bR) (ks := ks) (L := L) rfl rfl (by decide)
  have hl := (LiveR.mk' h1 h2).few hg
  obtain ⟨p, hp, rfl, _⟩ := h2
  obtain ⟨c0, c1, _⟩ := hp.cells
  unfold PartM.val at c1
  have HV := hide h
  have HG := hide hg
  have HA := hide (fun x : Int => env_at h (j := 2) (bK := bK) (bA := bA) (L := p.xs) rfl x)
  have HRA := hide (fun x : Int => env_rat h (i := 1) (j := 3) (bW := bW) (bR := bR) (ks := ks) (L := p.xs) rfl rfl (by decide) x)
  have HLN := hide (fun w1 (hb : Below wx.heap.size wx w1) => env_len (h.more hb) (j := 2) (bK := bK) (bA := bA) (L := p.xs) rfl)
  have HT := hide (fun w1 (hb : Below wx.heap.size wx w1) => env_top (h.more hb) (i := 0) (j := 2) (bK := bK) (bA := bA) (ks := ks) (L := p.xs) rfl rfl (by decide) hg)
  have HRT := hide (fun w1 (hb : Below wx.heap.size wx w1) => env_rtop (h.more hb) (i := 1) (j := 3) (bW := bW) (bR := bR) (ks := ks) (L := p.xs) rfl rfl (by decide) hg)
  have hlz : (p.xs.length : Int) ≤ 32768 := by omega
  have hund : undef = Value.tuple #[] := rfl
  generalize hn : p.xs.length = n at *
  generalize topM p.xs = tt at *
  clear h hg h1 hp hl hn
  go_enter Try.func15, Try.ntmps15
  go_wp2
  go_loopg [5] (n + 2) (fun g s5 wr => ∃ j : Nat, s5 = .int .i64 ((j : Int) - 1) ∧ j + g = n + 2 ∧ wr = wx)
  case atStart => exact ⟨0, rfl, by omega, rfl⟩
  case round =>
    obtain ⟨j, rfl, hj, rfl⟩ := hrel
    by_cases hlt : j < n + 2
    · have hz : (j : Int) - 1 ≤ (n : Int) := by omega
      have HJ := hide hj
      have hj0 : (0 : Int) ≤ (j : Int) := by omega
      have hj1 : (j : Int) ≤ 32770 := by omega
      clear hj
      go_wp2_with (first | (go_at_call 57; refine ((unhide HA) _).mono ?_; rintro e w1 ⟨rfl, rfl⟩) | (go_at_call 58; refine ((unhide HRA) _).mono ?_; rintro e w1 ⟨rfl, rfl⟩))
      go_roundg (gk - 1)
      case measure => have := unhide HJ; omega
      case rel => exact ⟨j + 1, by go_num, by have := unhide HJ; omega, rfl⟩
    · have hz : ¬ (j : Int) - 1 ≤ (n : Int) := by omega
      have hj1 : (j : Int) ≤ 32770 := by omega
      clear hj
      go_wp2_with fail
      first | go_region_with (first | (go_at_call 22; refine ((unhide HLN) _ (by first | exact Below.refl _ _ | exact (Below.refl _ _).drew | exact below_dn (Below.refl _ _) _ | exact (Below.refl _ _).drew.drew)).mono ?_; rintro e w1 ⟨rfl, rfl⟩) | (go_at_call 24; refine ((unhide HT) _ (by first | exact Below.refl _ _ | exact (Below.refl _ _).drew | exact below_dn (Below.refl _ _) _ | exact (Below.refl _ _).drew.drew)).mono ?_; rintro e w1 ⟨rfl, rfl⟩) | (go_at_call 59; refine ((unhide HRT) _ (by first | exact Below.refl _ _ | exact (Below.refl _ _).drew | exact below_dn (Below.refl _ _) _ | exact (Below.refl _ _).drew.drew)).mono ?_; rintro e w1 ⟨rfl, rfl⟩)) | fail
      all_goals go_wp2
      all_goals go_ret
      all_goals exact ⟨by first | rfl | simp, by first | exact unhide HV | exact (unhide HV).more (Below.refl _ _).drew | exact (unhide HV).more (below_dn (Below.refl _ _) _)⟩
end
end Go.Proofs.Ytmllhebmaldgfaa
