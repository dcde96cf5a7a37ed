/-
  Package active: an entry put in at a place. Package active: an entry put in at a place, or not.
-/
import Derived.Test.YtabdgmcajndgbaaSBav
namespace Go.Proofs.Ytabdgmcajndgbaa
open Go.RowKit Go.Sort

/-- What Put answers, and what it makes of the list. -/
def putA (ks : List Key) (es : List EntM) (i : Int) (id : Int) : Int := if enterE ks es id = 0 then (if i < 0 ∨ (es.length : Int) < i then 1 else 0) else enterE ks es id
def putE (ks : List Key) (es : List EntM) (i : Int) (id : Int) (t : TokM) : List EntM := if putA ks es i id = 0 then es.take i.toNat ++ newE ks es id t :: es.drop i.toNat else es
theorem putA_yes {ks : List Key} {es : List EntM} {n : Nat} {id : Int} (h : enterE ks es id = 0) (hn : n ≤ es.length) : putA ks es n id = 0 := by
  rw [putA, if_pos h, if_neg (by omega)]
theorem putA_no {ks : List Key} {es : List EntM} {i : Int} {id : Int} (h : enterE ks es id = 0) (hn : i < 0 ∨ (es.length : Int) < i) : putA ks es i id = 1 := by
  rw [putA, if_pos h, if_pos hn]
theorem putA_err {ks : List Key} {es : List EntM} {i : Int} {id : Int} (h : ¬ enterE ks es id = 0) : putA ks es i id = enterE ks es id := by
  rw [putA, if_neg h]

section
variable {w : World} {base baseA bL bA bW : Nat} {ks : List Key} {F FA FL : Nat → Prop} {v : Value} {ps : List Nat} {es : List EntM}
theorem put_end (h : LiM w base bL bA bW F v ps es) (hF : ∀ k, FL k ↔ (k = bL ∨ F k)) {W : World} {bx : Nat} {x : EntM} (hb : Below w.heap.size w W) (hx : EntIn W (fun k => w.heap.size ≤ k) bx x) (hl : es.length < 1000000000000) (n : Nat) (hn : n ≤ es.length) :
    Calls Try.prog 52 #[.pointer (some ⟨bW, 0, none⟩), .int .i64 n, .pointer (some ⟨bx, 0, none⟩)] W fun e w' => e = .returned (.tuple #[]) ∧ UpdL FL w w' base bL bA (es.take n ++ x :: es.drop n) ∧ w'.cell? ⟨bL, 1, none⟩ = some (.pointer (some ⟨bW, 0, none⟩)) := by
  have hlo := h.lo
  have hlt := lt_of_block h.box
  refine (put_gen (h.below hb).row hx.here (fun k hk => ⟨by omega, hk.2⟩) (fun e => by have := h.row.lt _ e; have := hx.fb; omega) n hn hl).mono ?_
  rintro e w' ⟨rfl, hu⟩
  have hu2 := UpdW.of (Mod.of_below (F := F) hb) (fun k hk => hk.imp id (fun e => e.1)) hu
  refine ⟨rfl, h.upd hF hu2, ?_⟩
  obtain ⟨_, _, h2, _⟩ := hu2
  exact cell_of_row _ _ 1 _ _ _ ((h2.block bL hlt h.nl).trans h.box)

set_option maxHeartbeats 2000000 in
theorem lput_yes (ha : ArK w baseA bA ks FA) (h : LiM w base bL bA bW F v ps es) (hF : ∀ k, FL k ↔ (k = bL ∨ F k)) (hl : es.length < 1000000000000) (id : Int) (t : TokM) (a : Option Addr) (cap : Nat) (hi : AttrsIn w a t.attrs) (hn : t.attrs.length ≤ 2513169434916) (hE : enterE ks es id = 0) (n : Nat) (hle : n ≤ es.length) :
    Calls Try.prog 30 #[.pointer (some ⟨bL, 0, none⟩), .int .i64 n, .int .i64 id, .agg (t.cells (.slice a t.attrs.length cap)).toArray] w fun e w' => e = .returned (.int .i64 0) ∧ UpdL FL w w' base bL bA (es.take n ++ newE ks es id t :: es.drop n) := by
  have HME := hide (fun (W : World) (hb : Below w.heap.size w W) => mayEnter_any (ha.below hb) (h.below hb) hl id)
  have HLE := hide (fun (W : World) (hb : Below w.heap.size w W) => llen_any (h.below hb))
  have HNE := hide (fun (W : World) (hb : Below w.heap.size w W) => newEntry_any W id (enterK ks es id).sp (enterK ks es id).nm t a cap (hi.below hb) hn)
  have HPE := hide (fun (W : World) (bx : Nat) (hb : Below w.heap.size w W) hx => put_end (bx := bx) (x := newE ks es id t) h hF hb hx hl n hle)
  have HC : Hid (∀ W, Below w.heap.size w W → W.cell? ⟨bL, 1, none⟩ = some (.pointer (some ⟨bW, 0, none⟩))) := hide (fun W hb => ((h.below hb).cells).2)
  have hle1 : ¬ (es.length : Int) < (n : Int) := by omega
  have hle2 : ¬ (n : Int) < 0 := by omega
  clear ha h hF hl hi hn hle
  rw [hE] at HME
  unfold newE at *
  generalize enterK ks es id = ek at *
  generalize es.take n = p1 at *
  generalize es.drop n = p2 at *
  generalize (es.length : Int) = le at *
  obtain ⟨ksp, knm⟩ := ek
  obtain ⟨t0, t1, t2, t3, t4, t5, t6, t7, ta⟩ := t
  simp only [TokM.cells] at *
  have HT : Hid (∀ w1, Below (w.alloc (.cells #[.int .i64 t0, .string t1, .string t2, .string t3, .int .i64 t4, .bool t5, .int .i32 t6, .bool t7, .slice a ta.length cap] 37)).heap.size (w.alloc (.cells #[.int .i64 t0, .string t1, .string t2, .string t3, .int .i64 t4, .bool t5, .int .i32 t6, .bool t7, .slice a ta.length cap] 37)) w1 → (w1.cell? ⟨w.heap.size, 0, none⟩ = some (.int .i64 t0) ∧ w1.cell? ⟨w.heap.size, 1, none⟩ = some (.string t1) ∧ w1.cell? ⟨w.heap.size, 2, none⟩ = some (.string t2) ∧ w1.cell? ⟨w.heap.size, 3, none⟩ = some (.string t3) ∧ w1.cell? ⟨w.heap.size, 4, none⟩ = some (.int .i64 t4) ∧ w1.cell? ⟨w.heap.size, 5, none⟩ = some (.bool t5) ∧ w1.cell? ⟨w.heap.size, 6, none⟩ = some (.int .i32 t6) ∧ w1.cell? ⟨w.heap.size, 7, none⟩ = some (.bool t7) ∧ w1.cell? ⟨w.heap.size, 8, none⟩ = some (.slice a ta.length cap)) ∧ Below w.heap.size w w1 ∧ ¬ w.heap.size = w1.heap.size ∧ ¬ w1.heap.size = w.heap.size) := hide (fun w1 hb => by
    have hbl := (hb.block _ (by simp)).trans (heap_alloc_new w (.cells #[.int .i64 t0, .string t1, .string t2, .string t3, .int .i64 t4, .bool t5, .int .i32 t6, .bool t7, .slice a ta.length cap] 37))
    obtain ⟨d0, d1, d2, d3, d4, d5, d6, d7, d8, _⟩ := nine hbl
    have := lt_of_block hbl
    exact ⟨⟨d0, d1, d2, d3, d4, d5, d6, d7, d8⟩, (below_new w _).trans (hb.mono (by simp)), by omega, by omega⟩)
  go_enter Try.func30, Try.ntmps30
  go_wp2_with (first | (go_at_call 48; refine ((unhide HME) _ (by exact below_new _ _)).mono ?_; rintro e w1 ⟨rfl, hb1⟩; obtain ⟨_, hbw, kne, kne2⟩ := (unhide HT) w1 hb1; obtain ⟨⟨d0, d1, d2, d3, d4, d5, d6, d7, d8⟩, _⟩ := (unhide HT) (w1.alloc (.cells #[.int .i64 ksp, .string knm] 81)) (hb1.alloc hb1.size _); have HB1 := hide hbw; have c1 := (unhide HC) _ (hbw.alloc hbw.size (.cells #[.int .i64 ksp, .string knm] 81)); clear hb1 hbw; unfold KinM.agg) | (go_at_call 8; refine ((unhide HLE) _ (by exact (unhide HB1).alloc (unhide HB1).size _)).mono ?_; rintro e w9 ⟨rfl, rfl⟩))
  go_region_with (first
    | (go_at_call 49; refine ((unhide HNE) _ (by first | exact (unhide HB1).alloc (unhide HB1).size _ | exact ((unhide HB1).alloc (unhide HB1).size _).drew)).mono ?_; rintro e w2 ⟨bx, rfl, hx, hb2⟩; have hB1 := (unhide HB1).alloc (unhide HB1).size (.cells #[.int .i64 ksp, .string knm] 81); have hb2' : Below (w1.alloc (.cells #[.int .i64 ksp, .string knm] 81)).heap.size (w1.alloc (.cells #[.int .i64 ksp, .string knm] 81)) w2 := ⟨hb2.os, hb2.tape, hb2.output, hb2.size, hb2.block⟩; have HB2 := hide (hB1.trans (hb2'.mono hB1.size)); have HX := hide (hx.wide (G := fun k => w.heap.size ≤ k) (fun k hk => Nat.le_trans hB1.size hk.1)); have c2 := (unhide HC) w2 (unhide HB2); clear hx hb2 hb2' hB1)
    | (go_at_call 52; refine ((unhide HPE) _ bx (by first | exact unhide HB2 | exact (unhide HB2).drew) (by first | exact unhide HX)).mono ?_; rintro e w6 ⟨rfl, hu, hc6⟩; have HUL := hide hu; have HC6 := hide hc6; clear hu hc6))
  all_goals go_wp2
  all_goals go_ret
  all_goals exact ⟨rfl, unhide HUL⟩
end
end Go.Proofs.Ytabdgmcajndgbaa

namespace Go.Proofs.Ytabdgmcajndgbaa
open Go.RowKit Go.Sort

section
variable {w : World} {base baseA bL bA bW : Nat} {ks : List Key} {F FA FL : Nat → Prop} {v : Value} {ps : List Nat} {es : List EntM}
set_option maxHeartbeats 2000000 in
theorem lput_err (ha : ArK w baseA bA ks FA) (h : LiM w base bL bA bW F v ps es) (hF : ∀ k, FL k ↔ (k = bL ∨ F k)) (hl : es.length < 1000000000000) (id : Int) (t : TokM) (a : Option Addr) (cap : Nat) (hE : ¬ enterE ks es id = 0) (i : Int) :
    Calls Try.prog 30 #[.pointer (some ⟨bL, 0, none⟩), .int .i64 i, .int .i64 id, .agg (t.cells (.slice a t.attrs.length cap)).toArray] w fun e w' => e = .returned (.int .i64 (enterE ks es id)) ∧ UpdL FL w w' base bL bA es := by
  have HME := hide (fun (W : World) (hb : Below w.heap.size w W) => mayEnter_any (ha.below hb) (h.below hb) hl id)
  have HLE := hide (fun (W : World) (hb : Below w.heap.size w W) => llen_any (h.below hb))
  have HER := hide (fun (W : World) (hb : Below w.heap.size w W) => UpdL.after hb (LiS.upd (show LiS W base bL bA es FL from ⟨bW, v, ps, F, h.below hb, hF⟩) (Below.refl _ W)))
  clear ha h hF hl
  have hE' : (enterE ks es id != 0) = true := by simpa using hE
  generalize enterE ks es id = en at *
  generalize (enterK ks es id) = ek at *
  obtain ⟨ksp, knm⟩ := ek
  obtain ⟨t0, t1, t2, t3, t4, t5, t6, t7, ta⟩ := t
  simp only [TokM.cells] at *
  have HT : Hid (∀ w1, Below (w.alloc (.cells #[.int .i64 t0, .string t1, .string t2, .string t3, .int .i64 t4, .bool t5, .int .i32 t6, .bool t7, .slice a ta.length cap] 37)).heap.size (w.alloc (.cells #[.int .i64 t0, .string t1, .string t2, .string t3, .int .i64 t4, .bool t5, .int .i32 t6, .bool t7, .slice a ta.length cap] 37)) w1 → (w1.cell? ⟨w.heap.size, 0, none⟩ = some (.int .i64 t0) ∧ w1.cell? ⟨w.heap.size, 1, none⟩ = some (.string t1) ∧ w1.cell? ⟨w.heap.size, 2, none⟩ = some (.string t2) ∧ w1.cell? ⟨w.heap.size, 3, none⟩ = some (.string t3) ∧ w1.cell? ⟨w.heap.size, 4, none⟩ = some (.int .i64 t4) ∧ w1.cell? ⟨w.heap.size, 5, none⟩ = some (.bool t5) ∧ w1.cell? ⟨w.heap.size, 6, none⟩ = some (.int .i32 t6) ∧ w1.cell? ⟨w.heap.size, 7, none⟩ = some (.bool t7) ∧ w1.cell? ⟨w.heap.size, 8, none⟩ = some (.slice a ta.length cap)) ∧ Below w.heap.size w w1 ∧ ¬ w.heap.size = w1.heap.size ∧ ¬ w1.heap.size = w.heap.size) := hide (fun w1 hb => by
    have hbl := (hb.block _ (by simp)).trans (heap_alloc_new w (.cells #[.int .i64 t0, .string t1, .string t2, .string t3, .int .i64 t4, .bool t5, .int .i32 t6, .bool t7, .slice a ta.length cap] 37))
    obtain ⟨d0, d1, d2, d3, d4, d5, d6, d7, d8, _⟩ := nine hbl
    have := lt_of_block hbl
    exact ⟨⟨d0, d1, d2, d3, d4, d5, d6, d7, d8⟩, (below_new w _).trans (hb.mono (by simp)), by omega, by omega⟩)
  go_enter Try.func30, Try.ntmps30
  go_wp2_with (first | (go_at_call 48; refine ((unhide HME) _ (by exact below_new _ _)).mono ?_; rintro e w1 ⟨rfl, hb1⟩; obtain ⟨_, hbw, kne, kne2⟩ := (unhide HT) w1 hb1; obtain ⟨⟨d0, d1, d2, d3, d4, d5, d6, d7, d8⟩, _⟩ := (unhide HT) (w1.alloc (.cells #[.int .i64 ksp, .string knm] 81)) (hb1.alloc hb1.size _); have HB1 := hide hbw; clear hb1 hbw; unfold KinM.agg))
  go_ret
  exact ⟨rfl, (unhide HER) _ ((unhide HB1).alloc (unhide HB1).size _)⟩

set_option maxHeartbeats 2000000 in
theorem lput_no (ha : ArK w baseA bA ks FA) (h : LiM w base bL bA bW F v ps es) (hF : ∀ k, FL k ↔ (k = bL ∨ F k)) (hl : es.length < 1000000000000) (id : Int) (t : TokM) (a : Option Addr) (cap : Nat) (hE : enterE ks es id = 0) (i : Int) (hi : i < 0 ∨ (es.length : Int) < i) :
    Calls Try.prog 30 #[.pointer (some ⟨bL, 0, none⟩), .int .i64 i, .int .i64 id, .agg (t.cells (.slice a t.attrs.length cap)).toArray] w fun e w' => e = .returned (.int .i64 1) ∧ UpdL FL w w' base bL bA es := by
  have HME := hide (fun (W : World) (hb : Below w.heap.size w W) => mayEnter_any (ha.below hb) (h.below hb) hl id)
  have HLE := hide (fun (W : World) (hb : Below w.heap.size w W) => llen_any (h.below hb))
  have HER := hide (fun (W : World) (hb : Below w.heap.size w W) => UpdL.after hb (LiS.upd (show LiS W base bL bA es FL from ⟨bW, v, ps, F, h.below hb, hF⟩) (Below.refl _ W)))
  clear ha h hF hl
  rw [hE] at HME
  clear hE
  generalize (enterK ks es id) = ek at *
  obtain ⟨ksp, knm⟩ := ek
  obtain ⟨t0, t1, t2, t3, t4, t5, t6, t7, ta⟩ := t
  simp only [TokM.cells] at *
  have HT : Hid (∀ w1, Below (w.alloc (.cells #[.int .i64 t0, .string t1, .string t2, .string t3, .int .i64 t4, .bool t5, .int .i32 t6, .bool t7, .slice a ta.length cap] 37)).heap.size (w.alloc (.cells #[.int .i64 t0, .string t1, .string t2, .string t3, .int .i64 t4, .bool t5, .int .i32 t6, .bool t7, .slice a ta.length cap] 37)) w1 → (w1.cell? ⟨w.heap.size, 0, none⟩ = some (.int .i64 t0) ∧ w1.cell? ⟨w.heap.size, 1, none⟩ = some (.string t1) ∧ w1.cell? ⟨w.heap.size, 2, none⟩ = some (.string t2) ∧ w1.cell? ⟨w.heap.size, 3, none⟩ = some (.string t3) ∧ w1.cell? ⟨w.heap.size, 4, none⟩ = some (.int .i64 t4) ∧ w1.cell? ⟨w.heap.size, 5, none⟩ = some (.bool t5) ∧ w1.cell? ⟨w.heap.size, 6, none⟩ = some (.int .i32 t6) ∧ w1.cell? ⟨w.heap.size, 7, none⟩ = some (.bool t7) ∧ w1.cell? ⟨w.heap.size, 8, none⟩ = some (.slice a ta.length cap)) ∧ Below w.heap.size w w1 ∧ ¬ w.heap.size = w1.heap.size ∧ ¬ w1.heap.size = w.heap.size) := hide (fun w1 hb => by
    have hbl := (hb.block _ (by simp)).trans (heap_alloc_new w (.cells #[.int .i64 t0, .string t1, .string t2, .string t3, .int .i64 t4, .bool t5, .int .i32 t6, .bool t7, .slice a ta.length cap] 37))
    obtain ⟨d0, d1, d2, d3, d4, d5, d6, d7, d8, _⟩ := nine hbl
    have := lt_of_block hbl
    exact ⟨⟨d0, d1, d2, d3, d4, d5, d6, d7, d8⟩, (below_new w _).trans (hb.mono (by simp)), by omega, by omega⟩)
  by_cases h0 : i < 0
  · clear hi
    go_enter Try.func30, Try.ntmps30
    go_wp2_with (first | (go_at_call 48; refine ((unhide HME) _ (by exact below_new _ _)).mono ?_; rintro e w1 ⟨rfl, hb1⟩; obtain ⟨_, hbw, kne, kne2⟩ := (unhide HT) w1 hb1; obtain ⟨⟨d0, d1, d2, d3, d4, d5, d6, d7, d8⟩, _⟩ := (unhide HT) (w1.alloc (.cells #[.int .i64 ksp, .string knm] 81)) (hb1.alloc hb1.size _); have HB1 := hide hbw; clear hb1 hbw; unfold KinM.agg) | (go_at_call 8; refine ((unhide HLE) _ (by exact (unhide HB1).alloc (unhide HB1).size _)).mono ?_; rintro e w9 ⟨rfl, rfl⟩))
    go_ret
    exact ⟨rfl, (unhide HER) _ ((unhide HB1).alloc (unhide HB1).size _)⟩
  · have h1 : (es.length : Int) < i := by omega
    clear hi
    go_enter Try.func30, Try.ntmps30
    go_wp2_with (first | (go_at_call 48; refine ((unhide HME) _ (by exact below_new _ _)).mono ?_; rintro e w1 ⟨rfl, hb1⟩; obtain ⟨_, hbw, kne, kne2⟩ := (unhide HT) w1 hb1; obtain ⟨⟨d0, d1, d2, d3, d4, d5, d6, d7, d8⟩, _⟩ := (unhide HT) (w1.alloc (.cells #[.int .i64 ksp, .string knm] 81)) (hb1.alloc hb1.size _); have HB1 := hide hbw; clear hb1 hbw; unfold KinM.agg) | (go_at_call 8; refine ((unhide HLE) _ (by exact (unhide HB1).alloc (unhide HB1).size _)).mono ?_; rintro e w9 ⟨rfl, rfl⟩))
    go_ret
    exact ⟨rfl, (unhide HER) _ ((unhide HB1).alloc (unhide HB1).size _)⟩

theorem lput_any (ha : ArK w baseA bA ks FA) (h : LiM w base bL bA bW F v ps es) (hF : ∀ k, FL k ↔ (k = bL ∨ F k)) (hl : es.length < 1000000000000) (id : Int) (t : TokM) (a : Option Addr) (cap : Nat) (hi : AttrsIn w a t.attrs) (hn : t.attrs.length ≤ 2513169434916) (i : Int) :
    Calls Try.prog 30 #[.pointer (some ⟨bL, 0, none⟩), .int .i64 i, .int .i64 id, .agg (t.cells (.slice a t.attrs.length cap)).toArray] w fun e w' => e = .returned (.int .i64 (putA ks es i id)) ∧ UpdL FL w w' base bL bA (putE ks es i id t) := by
  unfold putE
  by_cases hE : enterE ks es id = 0
  · by_cases hr : i < 0 ∨ (es.length : Int) < i
    · rw [putA_no hE hr, if_neg (by decide)]
      exact lput_no ha h hF hl id t a cap hE i hr
    · obtain ⟨n, rfl⟩ : ∃ n : Nat, i = n := ⟨i.toNat, by omega⟩
      have hn2 : n ≤ es.length := by omega
      rw [putA_yes hE hn2, if_pos rfl]
      exact lput_yes ha h hF hl id t a cap hi hn hE n hn2
  · rw [putA_err hE, if_neg hE]
    exact lput_err ha h hF hl id t a cap hE i
end
section
variable {w wx : World} {obs : List (Ob w.heap.size)} {i j bL bA : Nat} {es : List EntM} {ks : List Key}
theorem env_lput (h : Env w wx obs) (hi : obs[i]? = some (arOb _ bA ks)) (hj : obs[j]? = some (liOb _ bL bA es)) (hl : es.length < 1000000000000) (n : Int) (id : Int) (t : TokM) (a : Option Addr) (cap : Nat) (ht : AttrsIn wx a t.attrs) (hn : t.attrs.length ≤ 2513169434916) :
    Calls Try.prog 30 #[.pointer (some ⟨bL, 0, none⟩), .int .i64 n, .int .i64 id, .agg (t.cells (.slice a t.attrs.length cap)).toArray] wx fun e w' => e = .returned (.int .i64 (putA ks es n id)) ∧ Env w w' (obs.set j (liOb _ bL bA (putE ks es n id t))) := by
  obtain ⟨FA, h1, _⟩ := h.ar hi
  obtain ⟨F, ⟨bW, v, ps, R, hm, hF⟩, h3⟩ := h.li hj
  exact (lput_any h1 hm hF hl id t a cap ht hn n).mono fun _ _ ⟨a, b⟩ => ⟨a, h3 _ _ b⟩
end
end Go.Proofs.Ytabdgmcajndgbaa
