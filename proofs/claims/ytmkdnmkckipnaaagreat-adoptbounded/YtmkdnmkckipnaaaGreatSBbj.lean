/-
  Package active: an entry put in at a place. Package active: an entry put in at a place, or not. Package active: an entry's element swapped.
-/
import Derived.Test.YtmkdnmkckipnaaaGreatSBbi
namespace Go.Proofs.YtmkdnmkckipnaaaGreat
open Go.RowKit Go.Sort

/-- What Put answers, and what it makes of the list. -/
def putA (ks : List Key) (es : List EntM) (i : Int) (id : Int) : Int := if enterEAc ks es id = 0 then (if i < 0 ∨ (es.length : Int) < i then 1 else 0) else enterEAc ks es id
def putEAc (ks : List Key) (es : List EntM) (i : Int) (id : Int) (t : TokM) : List EntM := if putA ks es i id = 0 then es.take i.toNat ++ newE ks es id t :: es.drop i.toNat else es
theorem putA_yes {ks : List Key} {es : List EntM} {n : Nat} {id : Int} (h : enterEAc ks es id = 0) (hn : n ≤ es.length) : putA ks es n id = 0 := by
  rw [putA, if_pos h, if_neg (by omega)]
theorem putA_no {ks : List Key} {es : List EntM} {i : Int} {id : Int} (h : enterEAc ks es id = 0) (hn : i < 0 ∨ (es.length : Int) < i) : putA ks es i id = 1 := by
  rw [putA, if_pos h, if_pos hn]
theorem putA_err {ks : List Key} {es : List EntM} {i : Int} {id : Int} (h : ¬ enterEAc ks es id = 0) : putA ks es i id = enterEAc ks es id := by
  rw [putA, if_neg h]

section
variable {w : World} {base baseA bL bA bW : Nat} {ks : List Key} {F FA FL : Nat → Prop} {v : Value} {ps : List Nat} {es : List EntM}
theorem put_endAc (h : LiM w base bL bA bW F v ps es) (hF : ∀ k, FL k ↔ (k = bL ∨ F k)) {W : World} {bx : Nat} {x : EntM} (hb : Below w.heap.size w W) (hx : EntIn W (fun k => w.heap.size ≤ k) bx x) (hl : es.length < 1000000000000) (n : Nat) (hn : n ≤ es.length) :
    Calls Tryz.prog 69 #[.pointer (some ⟨bW, 0, none⟩), .int .i64 n, .pointer (some ⟨bx, 0, none⟩)] W fun e w' => e = .returned (.tuple #[]) ∧ UpdL FL w w' base bL bA (es.take n ++ x :: es.drop n) ∧ w'.cell? ⟨bL, 1, none⟩ = some (.pointer (some ⟨bW, 0, none⟩)) := by
  have hlo := h.lo
  have hlt := lt_of_block h.box
  refine (put_gen (h.below hb).row hx.here (fun k hk => ⟨by omega, hk.2⟩) (fun e => by have := h.row.lt _ e; have := hx.fb; omega) n hn hl).mono ?_
  rintro e w' ⟨rfl, hu⟩
  have hu2 := UpdWAc.of (Mod.of_below (F := F) hb) (fun k hk => hk.imp id (fun e => e.1)) hu
  refine ⟨rfl, h.upd hF hu2, ?_⟩
  obtain ⟨_, _, h2, _⟩ := hu2
  exact cell_of_row _ _ 1 _ _ _ ((h2.block bL hlt h.nl).trans h.box)

set_option maxHeartbeats 2000000 in
theorem lput_yes (ha : ArK w baseA bA ks FA) (h : LiM w base bL bA bW F v ps es) (hF : ∀ k, FL k ↔ (k = bL ∨ F k)) (hl : es.length < 1000000000000) (id : Int) (t : TokM) (a : Option Addr) (cap : Nat) (hi : AttrsIn w a t.attrs) (hn : t.attrs.length ≤ 2513169434916) (hE : enterEAc ks es id = 0) (n : Nat) (hle : n ≤ es.length) :
    Calls Tryz.prog 126 #[.pointer (some ⟨bL, 0, none⟩), .int .i64 n, .int .i64 id, .agg (t.cells (.slice a t.attrs.length cap)).toArray] w fun e w' => e = .returned (.int .i64 0) ∧ UpdL FL w w' base bL bA (es.take n ++ newE ks es id t :: es.drop n) := by
  have HME := hide (fun (W : World) (hb : Below w.heap.size w W) => mayEnter_any (ha.below hb) (h.below hb) hl id)
  have HLE := hide (fun (W : World) (hb : Below w.heap.size w W) => llen_any (h.below hb))
  have HNE := hide (fun (W : World) (hb : Below w.heap.size w W) => newEntry_any W id (enterK ks es id).sp (enterK ks es id).nm t a cap (hi.below hb) hn)
  have HPE := hide (fun (W : World) (bx : Nat) (hb : Below w.heap.size w W) hx => put_endAc (bx := bx) (x := newE ks es id t) h hF hb hx hl n hle)
  have HC : Hid (∀ W, Below w.heap.size w W → W.cell? ⟨bL, 1, none⟩ = some (.pointer (some ⟨bW, 0, none⟩))) := hide (fun W hb => ((h.below hb).cells).2)
  have hle1 : ¬ (es.length : Int) < (n : Int) := by omega
  have hle2 : ¬ (n : Int) < 0 := by omega
  clear ha h hF hl hi hn hle
  rw [hE] at HME
  unfold newE at *
  generalize enterK ks es id = ek at *
  generalize es.take n = p1 at *
  generalize es.drop n = p2 at *
  generalize (es.length : Int) = le at *
  obtain ⟨ksp, knm⟩ := ek
  obtain ⟨t0, t1, t2, t3, t4, t5, t6, t7, ta⟩ := t
  simp only [TokM.cells] at *
  have HT : Hid (∀ w1, Below (w.alloc (.cells #[.int .i64 t0, .string t1, .string t2, .string t3, .int .i64 t4, .bool t5, .int .i32 t6, .bool t7, .slice a ta.length cap] 52)).heap.size (w.alloc (.cells #[.int .i64 t0, .string t1, .string t2, .string t3, .int .i64 t4, .bool t5, .int .i32 t6, .bool t7, .slice a ta.length cap] 52)) w1 → (w1.cell? ⟨w.heap.size, 0, none⟩ = some (.int .i64 t0) ∧ w1.cell? ⟨w.heap.size, 1, none⟩ = some (.string t1) ∧ w1.cell? ⟨w.heap.size, 2, none⟩ = some (.string t2) ∧ w1.cell? ⟨w.heap.size, 3, none⟩ = some (.string t3) ∧ w1.cell? ⟨w.heap.size, 4, none⟩ = some (.int .i64 t4) ∧ w1.cell? ⟨w.heap.size, 5, none⟩ = some (.bool t5) ∧ w1.cell? ⟨w.heap.size, 6, none⟩ = some (.int .i32 t6) ∧ w1.cell? ⟨w.heap.size, 7, none⟩ = some (.bool t7) ∧ w1.cell? ⟨w.heap.size, 8, none⟩ = some (.slice a ta.length cap)) ∧ Below w.heap.size w w1 ∧ ¬ w.heap.size = w1.heap.size ∧ ¬ w1.heap.size = w.heap.size) := hide (fun w1 hb => by
    have hbl := (hb.block _ (by simp)).trans (heap_alloc_new w (.cells #[.int .i64 t0, .string t1, .string t2, .string t3, .int .i64 t4, .bool t5, .int .i32 t6, .bool t7, .slice a ta.length cap] 52))
    obtain ⟨d0, d1, d2, d3, d4, d5, d6, d7, d8, _⟩ := nine hbl
    have := lt_of_block hbl
    exact ⟨⟨d0, d1, d2, d3, d4, d5, d6, d7, d8⟩, (below_newAc w _).trans (hb.mono (by simp)), by omega, by omega⟩)
  go_enter Tryz.func126, Tryz.ntmps126
  go_wp2_with (first | (go_at_call 65; refine ((unhide HME) _ (by exact below_newAc _ _)).mono ?_; rintro e w1 ⟨rfl, hb1⟩; obtain ⟨_, hbw, kne, kne2⟩ := (unhide HT) w1 hb1; obtain ⟨⟨d0, d1, d2, d3, d4, d5, d6, d7, d8⟩, _⟩ := (unhide HT) (w1.alloc (.cells #[.int .i64 ksp, .string knm] 122)) (hb1.alloc hb1.size _); have HB1 := hide hbw; have c1 := (unhide HC) _ (hbw.alloc hbw.size (.cells #[.int .i64 ksp, .string knm] 122)); clear hb1 hbw; unfold KinM.agg) | (go_at_call 16; refine ((unhide HLE) _ (by exact (unhide HB1).alloc (unhide HB1).size _)).mono ?_; rintro e w9 ⟨rfl, rfl⟩))
  go_region_with (first
    | (go_at_call 66; refine ((unhide HNE) _ (by first | exact (unhide HB1).alloc (unhide HB1).size _ | exact ((unhide HB1).alloc (unhide HB1).size _).drew)).mono ?_; rintro e w2 ⟨bx, rfl, hx, hb2⟩; have hB1 := (unhide HB1).alloc (unhide HB1).size (.cells #[.int .i64 ksp, .string knm] 122); have hb2' : Below (w1.alloc (.cells #[.int .i64 ksp, .string knm] 122)).heap.size (w1.alloc (.cells #[.int .i64 ksp, .string knm] 122)) w2 := ⟨hb2.os, hb2.tape, hb2.output, hb2.size, hb2.block⟩; have HB2 := hide (hB1.trans (hb2'.mono hB1.size)); have HX := hide (hx.wide (G := fun k => w.heap.size ≤ k) (fun k hk => Nat.le_trans hB1.size hk.1)); have c2 := (unhide HC) w2 (unhide HB2); clear hx hb2 hb2' hB1)
    | (go_at_call 69; refine ((unhide HPE) _ bx (by first | exact unhide HB2 | exact (unhide HB2).drew) (by first | exact unhide HX)).mono ?_; rintro e w6 ⟨rfl, hu, hc6⟩; have HUL := hide hu; have HC6 := hide hc6; clear hu hc6))
  all_goals go_wp2
  all_goals go_ret
  all_goals exact ⟨rfl, unhide HUL⟩
end
end Go.Proofs.YtmkdnmkckipnaaaGreat

namespace Go.Proofs.YtmkdnmkckipnaaaGreat
open Go.RowKit Go.Sort

section
variable {w : World} {base baseA bL bA bW : Nat} {ks : List Key} {F FA FL : Nat → Prop} {v : Value} {ps : List Nat} {es : List EntM}
set_option maxHeartbeats 2000000 in
theorem lput_err (ha : ArK w baseA bA ks FA) (h : LiM w base bL bA bW F v ps es) (hF : ∀ k, FL k ↔ (k = bL ∨ F k)) (hl : es.length < 1000000000000) (id : Int) (t : TokM) (a : Option Addr) (cap : Nat) (hE : ¬ enterEAc ks es id = 0) (i : Int) :
    Calls Tryz.prog 126 #[.pointer (some ⟨bL, 0, none⟩), .int .i64 i, .int .i64 id, .agg (t.cells (.slice a t.attrs.length cap)).toArray] w fun e w' => e = .returned (.int .i64 (enterEAc ks es id)) ∧ UpdL FL w w' base bL bA es := by
  have HME := hide (fun (W : World) (hb : Below w.heap.size w W) => mayEnter_any (ha.below hb) (h.below hb) hl id)
  have HLE := hide (fun (W : World) (hb : Below w.heap.size w W) => llen_any (h.below hb))
  have HER := hide (fun (W : World) (hb : Below w.heap.size w W) => UpdL.after hb (LiS.upd (show LiS W base bL bA es FL from ⟨bW, v, ps, F, h.below hb, hF⟩) (Below.refl _ W)))
  clear ha h hF hl
  have hE' : (enterEAc ks es id != 0) = true := by simpa using hE
  generalize enterEAc ks es id = en at *
  generalize (enterK ks es id) = ek at *
  obtain ⟨ksp, knm⟩ := ek
  obtain ⟨t0, t1, t2, t3, t4, t5, t6, t7, ta⟩ := t
  simp only [TokM.cells] at *
  have HT : Hid (∀ w1, Below (w.alloc (.cells #[.int .i64 t0, .string t1, .string t2, .string t3, .int .i64 t4, .bool t5, .int .i32 t6, .bool t7, .slice a ta.length cap] 52)).heap.size (w.alloc (.cells #[.int .i64 t0, .string t1, .string t2, .string t3, .int .i64 t4, .bool t5, .int .i32 t6, .bool t7, .slice a ta.length cap] 52)) w1 → (w1.cell? ⟨w.heap.size, 0, none⟩ = some (.int .i64 t0) ∧ w1.cell? ⟨w.heap.size, 1, none⟩ = some (.string t1) ∧ w1.cell? ⟨w.heap.size, 2, none⟩ = some (.string t2) ∧ w1.cell? ⟨w.heap.size, 3, none⟩ = some (.string t3) ∧ w1.cell? ⟨w.heap.size, 4, none⟩ = some (.int .i64 t4) ∧ w1.cell? ⟨w.heap.size, 5, none⟩ = some (.bool t5) ∧ w1.cell? ⟨w.heap.size, 6, none⟩ = some (.int .i32 t6) ∧ w1.cell? ⟨w.heap.size, 7, none⟩ = some (.bool t7) ∧ w1.cell? ⟨w.heap.size, 8, none⟩ = some (.slice a ta.length cap)) ∧ Below w.heap.size w w1 ∧ ¬ w.heap.size = w1.heap.size ∧ ¬ w1.heap.size = w.heap.size) := hide (fun w1 hb => by
    have hbl := (hb.block _ (by simp)).trans (heap_alloc_new w (.cells #[.int .i64 t0, .string t1, .string t2, .string t3, .int .i64 t4, .bool t5, .int .i32 t6, .bool t7, .slice a ta.length cap] 52))
    obtain ⟨d0, d1, d2, d3, d4, d5, d6, d7, d8, _⟩ := nine hbl
    have := lt_of_block hbl
    exact ⟨⟨d0, d1, d2, d3, d4, d5, d6, d7, d8⟩, (below_newAc w _).trans (hb.mono (by simp)), by omega, by omega⟩)
  go_enter Tryz.func126, Tryz.ntmps126
  go_wp2_with (first | (go_at_call 65; refine ((unhide HME) _ (by exact below_newAc _ _)).mono ?_; rintro e w1 ⟨rfl, hb1⟩; obtain ⟨_, hbw, kne, kne2⟩ := (unhide HT) w1 hb1; obtain ⟨⟨d0, d1, d2, d3, d4, d5, d6, d7, d8⟩, _⟩ := (unhide HT) (w1.alloc (.cells #[.int .i64 ksp, .string knm] 122)) (hb1.alloc hb1.size _); have HB1 := hide hbw; clear hb1 hbw; unfold KinM.agg))
  go_ret
  exact ⟨rfl, (unhide HER) _ ((unhide HB1).alloc (unhide HB1).size _)⟩

set_option maxHeartbeats 2000000 in
theorem lput_no (ha : ArK w baseA bA ks FA) (h : LiM w base bL bA bW F v ps es) (hF : ∀ k, FL k ↔ (k = bL ∨ F k)) (hl : es.length < 1000000000000) (id : Int) (t : TokM) (a : Option Addr) (cap : Nat) (hE : enterEAc ks es id = 0) (i : Int) (hi : i < 0 ∨ (es.length : Int) < i) :
    Calls Tryz.prog 126 #[.pointer (some ⟨bL, 0, none⟩), .int .i64 i, .int .i64 id, .agg (t.cells (.slice a t.attrs.length cap)).toArray] w fun e w' => e = .returned (.int .i64 1) ∧ UpdL FL w w' base bL bA es := by
  have HME := hide (fun (W : World) (hb : Below w.heap.size w W) => mayEnter_any (ha.below hb) (h.below hb) hl id)
  have HLE := hide (fun (W : World) (hb : Below w.heap.size w W) => llen_any (h.below hb))
  have HER := hide (fun (W : World) (hb : Below w.heap.size w W) => UpdL.after hb (LiS.upd (show LiS W base bL bA es FL from ⟨bW, v, ps, F, h.below hb, hF⟩) (Below.refl _ W)))
  clear ha h hF hl
  rw [hE] at HME
  clear hE
  generalize (enterK ks es id) = ek at *
  obtain ⟨ksp, knm⟩ := ek
  obtain ⟨t0, t1, t2, t3, t4, t5, t6, t7, ta⟩ := t
  simp only [TokM.cells] at *
  have HT : Hid (∀ w1, Below (w.alloc (.cells #[.int .i64 t0, .string t1, .string t2, .string t3, .int .i64 t4, .bool t5, .int .i32 t6, .bool t7, .slice a ta.length cap] 52)).heap.size (w.alloc (.cells #[.int .i64 t0, .string t1, .string t2, .string t3, .int .i64 t4, .bool t5, .int .i32 t6, .bool t7, .slice a ta.length cap] 52)) w1 → (w1.cell? ⟨w.heap.size, 0, none⟩ = some (.int .i64 t0) ∧ w1.cell? ⟨w.heap.size, 1, none⟩ = some (.string t1) ∧ w1.cell? ⟨w.heap.size, 2, none⟩ = some (.string t2) ∧ w1.cell? ⟨w.heap.size, 3, none⟩ = some (.string t3) ∧ w1.cell? ⟨w.heap.size, 4, none⟩ = some (.int .i64 t4) ∧ w1.cell? ⟨w.heap.size, 5, none⟩ = some (.bool t5) ∧ w1.cell? ⟨w.heap.size, 6, none⟩ = some (.int .i32 t6) ∧ w1.cell? ⟨w.heap.size, 7, none⟩ = some (.bool t7) ∧ w1.cell? ⟨w.heap.size, 8, none⟩ = some (.slice a ta.length cap)) ∧ Below w.heap.size w w1 ∧ ¬ w.heap.size = w1.heap.size ∧ ¬ w1.heap.size = w.heap.size) := hide (fun w1 hb => by
    have hbl := (hb.block _ (by simp)).trans (heap_alloc_new w (.cells #[.int .i64 t0, .string t1, .string t2, .string t3, .int .i64 t4, .bool t5, .int .i32 t6, .bool t7, .slice a ta.length cap] 52))
    obtain ⟨d0, d1, d2, d3, d4, d5, d6, d7, d8, _⟩ := nine hbl
    have := lt_of_block hbl
    exact ⟨⟨d0, d1, d2, d3, d4, d5, d6, d7, d8⟩, (below_newAc w _).trans (hb.mono (by simp)), by omega, by omega⟩)
  by_cases h0 : i < 0
  · clear hi
    go_enter Tryz.func126, Tryz.ntmps126
    go_wp2_with (first | (go_at_call 65; refine ((unhide HME) _ (by exact below_newAc _ _)).mono ?_; rintro e w1 ⟨rfl, hb1⟩; obtain ⟨_, hbw, kne, kne2⟩ := (unhide HT) w1 hb1; obtain ⟨⟨d0, d1, d2, d3, d4, d5, d6, d7, d8⟩, _⟩ := (unhide HT) (w1.alloc (.cells #[.int .i64 ksp, .string knm] 122)) (hb1.alloc hb1.size _); have HB1 := hide hbw; clear hb1 hbw; unfold KinM.agg) | (go_at_call 16; refine ((unhide HLE) _ (by exact (unhide HB1).alloc (unhide HB1).size _)).mono ?_; rintro e w9 ⟨rfl, rfl⟩))
    go_ret
    exact ⟨rfl, (unhide HER) _ ((unhide HB1).alloc (unhide HB1).size _)⟩
  · have h1 : (es.length : Int) < i := by omega
    clear hi
    go_enter Tryz.func126, Tryz.ntmps126
    go_wp2_with (first | (go_at_call 65; refine ((unhide HME) _ (by exact below_newAc _ _)).mono ?_; rintro e w1 ⟨rfl, hb1⟩; obtain ⟨_, hbw, kne, kne2⟩ := (unhide HT) w1 hb1; obtain ⟨⟨d0, d1, d2, d3, d4, d5, d6, d7, d8⟩, _⟩ := (unhide HT) (w1.alloc (.cells #[.int .i64 ksp, .string knm] 122)) (hb1.alloc hb1.size _); have HB1 := hide hbw; clear hb1 hbw; unfold KinM.agg) | (go_at_call 16; refine ((unhide HLE) _ (by exact (unhide HB1).alloc (unhide HB1).size _)).mono ?_; rintro e w9 ⟨rfl, rfl⟩))
    go_ret
    exact ⟨rfl, (unhide HER) _ ((unhide HB1).alloc (unhide HB1).size _)⟩

theorem lput_any (ha : ArK w baseA bA ks FA) (h : LiM w base bL bA bW F v ps es) (hF : ∀ k, FL k ↔ (k = bL ∨ F k)) (hl : es.length < 1000000000000) (id : Int) (t : TokM) (a : Option Addr) (cap : Nat) (hi : AttrsIn w a t.attrs) (hn : t.attrs.length ≤ 2513169434916) (i : Int) :
    Calls Tryz.prog 126 #[.pointer (some ⟨bL, 0, none⟩), .int .i64 i, .int .i64 id, .agg (t.cells (.slice a t.attrs.length cap)).toArray] w fun e w' => e = .returned (.int .i64 (putA ks es i id)) ∧ UpdL FL w w' base bL bA (putEAc ks es i id t) := by
  unfold putEAc
  by_cases hE : enterEAc ks es id = 0
  · by_cases hr : i < 0 ∨ (es.length : Int) < i
    · rw [putA_no hE hr, if_neg (by decide)]
      exact lput_no ha h hF hl id t a cap hE i hr
    · obtain ⟨n, rfl⟩ : ∃ n : Nat, i = n := ⟨i.toNat, by omega⟩
      have hn2 : n ≤ es.length := by omega
      rw [putA_yes hE hn2, if_pos rfl]
      exact lput_yes ha h hF hl id t a cap hi hn hE n hn2
  · rw [putA_err hE, if_neg hE]
    exact lput_err ha h hF hl id t a cap hE i
end
section
variable {w wx : World} {obs : List (Ob w.heap.size)} {i j bL bA : Nat} {es : List EntM} {ks : List Key}
theorem env_lput (h : Env w wx obs) (hi : obs[i]? = some (arOb _ bA ks)) (hj : obs[j]? = some (liOb _ bL bA es)) (hl : es.length < 1000000000000) (n : Int) (id : Int) (t : TokM) (a : Option Addr) (cap : Nat) (ht : AttrsIn wx a t.attrs) (hn : t.attrs.length ≤ 2513169434916) :
    Calls Tryz.prog 126 #[.pointer (some ⟨bL, 0, none⟩), .int .i64 n, .int .i64 id, .agg (t.cells (.slice a t.attrs.length cap)).toArray] wx fun e w' => e = .returned (.int .i64 (putA ks es n id)) ∧ Env w w' (obs.set j (liOb _ bL bA (putEAc ks es n id t))) := by
  obtain ⟨FA, h1, _⟩ := h.ar hi
  obtain ⟨F, ⟨bW, v, ps, R, hm, hF⟩, h3⟩ := h.li hj
  exact (lput_any h1 hm hF hl id t a cap ht hn n).mono fun _ _ ⟨a, b⟩ => ⟨a, h3 _ _ b⟩
end
end Go.Proofs.YtmkdnmkckipnaaaGreat

namespace Go.Proofs.YtmkdnmkckipnaaaGreat
open Go.RowKit Go.Sort

/-- What Swap answers, and what it makes of the list. -/
def swapA (ks : List Key) (es : List EntM) (old id : Int) : Int := if placeE es old < 0 then 6 else enterEAc ks es id
def kinE (x : EntM) (id : Int) (k : KinM) : EntM := ⟨id, k.sp, k.nm, x.tok⟩
def swapEAc (ks : List Key) (es : List EntM) (old id : Int) : List EntM := if swapA ks es old id = 0 then es.set (placeE es old).toNat (kinE (es.getD (placeE es old).toNat mark0) id (enterK ks es id)) else es

section
variable {w w' : World} {base baseA bL bA bW : Nat} {ks : List Key} {F FA FL : Nat → Prop} {v : Value} {ps : List Nat} {es : List EntM}
/-- The row whose entry at a place was written anew, its lists aside. -/
theorem RowMAc.swapped (h : RowMAc w base bW F v ps es) {i b : Nat} {x y : EntM} (hi : es[i]? = some x) (hb : ps[i]? = some b) (hm : Mod (fun k => k = b) w w') (ht : y.tok = x.tok) {ao so : Option Addr} {ac sc : Nat}
    (h1 : w.heap[b]? = some (.cells (x.cells (.slice ao x.tok.attrs.length ac) (.slice so (setL x.tok.attrs).length sc)).toArray 124 (0, 0)))
    (h2 : AtrF w F ao x.tok.attrs) (h3 : AtrF w F so (setL x.tok.attrs))
    (h4 : w'.heap[b]? = some (.cells (y.cells (.slice ao x.tok.attrs.length ac) (.slice so (setL x.tok.attrs).length sc)).toArray 124 (0, 0))) : RowMAc w' base bW F v ps (es.set i y) := by
  have hxi := h.ents i b x hb hi
  have hk : ∀ k cur, F k → w.heap[k]? = some (.cells cur 146 (0, 0)) → w'.heap[k]? = w.heap[k]? := fun k cur _ hc => hm.block k (lt_of_block hc) (fun e => by
    subst e
    rw [h1] at hc
    cases hc)
  refine ⟨(hm.block bW (lt_of_block h.box) (fun e => by have := h.box; rw [e, h1] at this; cases this)).trans h.box, ownsRow_kept h.own (fun k hk2 => ?_), by rw [List.length_set]; exact h.len, h.nodup, fun j c z hc hz => ?_, h.fb, h.fv, fun k hk2 => ⟨(h.lt k hk2).1, Nat.lt_of_lt_of_le (h.lt k hk2).2 hm.size⟩⟩
  · obtain ⟨cur, hc⟩ := ownsRow_block h.own hk2
    exact hm.block k (lt_of_block hc) (fun e => by
      subst e
      rw [h1] at hc
      cases hc)
  · by_cases e : i = j
    · subst e
      rw [hb] at hc
      cases hc
      rw [List.getElem?_set_self (List.getElem?_eq_some_iff.1 hi).1] at hz
      cases hz
      rw [← ht] at h2 h3 h4
      refine ⟨hxi.fb, by rw [ht]; exact hxi.few, ao, ac, so, sc, h4, h2.keep hk, h3.keep hk⟩
    · rw [List.getElem?_set_ne e] at hz
      have hne : c ≠ b := fun e2 => by
        subst e2
        have hl := (List.getElem?_eq_some_iff.1 hc).1
        exact e ((List.getElem?_inj (List.getElem?_eq_some_iff.1 hb).1 h.nodup).1 (hb.trans hc.symm))
      have hz2 := h.ents j c z hc hz
      exact hz2.keep (hm.block c hz2.lt hne) hk

set_option maxHeartbeats 2000000 in
theorem lswap_yes (ha : ArK w baseA bA ks FA) (h : LiM w base bL bA bW F v ps es) (hF : ∀ k, FL k ↔ (k = bL ∨ F k)) (hl : es.length < 1000000000000) (old id : Int) (hE : enterEAc ks es id = 0) (n : Nat) (hn : placeE es old = n) {x : EntM} (hx : es[n]? = some x) :
    Calls Tryz.prog 193 #[.pointer (some ⟨bL, 0, none⟩), .int .i64 old, .int .i64 id] w fun e w' => e = .returned (.int .i64 0) ∧ UpdL FL w w' base bL bA (es.set n (kinE x id (enterK ks es id))) := by
  have HME := hide (mayEnter_any ha h hl id)
  have HFI : Hid (∀ W, Below w.heap.size w W → Calls Tryz.prog 84 #[.pointer (some ⟨bL, 0, none⟩), .int .i64 old] W fun e w' => e = .returned (.int .i64 (placeE es old)) ∧ Below W.heap.size W w') := hide (fun W hb => lfind_any (h.below hb) hl old)
  have HM := hide (fun (W : World) (hb : Below w.heap.size w W) => lmade_any (h.below hb))
  have HC : Hid (∀ W, Below w.heap.size w W → W.cell? ⟨bL, 1, none⟩ = some (.pointer (some ⟨bW, 0, none⟩))) := hide (fun W hb => ((h.below hb).cells).2)
  have HAT := hide (fun (W : World) (hb : Below w.heap.size w W) => rat_any (h.below hb).row hx)
  have HEND := hide (fun (W W' : World) (hb : Below w.heap.size w W) (b : Nat) (y : EntM) (hpb : ps[n]? = some b) (hm : Mod (fun k => k = b) W W') (ht : y.tok = x.tok) (ao so : Option Addr) (ac sc : Nat) h1 h2 h3 h4 => show UpdL FL w W' base bL bA (es.set n y) from by
    have h5 := (h.below hb).row.swapped hx hpb hm ht (ao := ao) (so := so) (ac := ac) (sc := sc) h1 h2 h3 h4
    have hfb := ((h.below hb).row.ents n b x hpb hx).fb
    exact UpdL.after hb ((h.below hb).upd hF ⟨F, ⟨v, ps, h5⟩, hm.mono (fun k _ e => by subst e; exact hfb), fun _ e => .inl e⟩))
  rw [hE] at HME
  rw [hn] at HFI
  have hn0 : ¬ (n : Int) < 0 := by omega
  clear ha h hF hl hE hn hx
  generalize enterK ks es id = ek at *
  obtain ⟨ksp, knm⟩ := ek
  unfold kinE
  go_enter Tryz.func193, Tryz.ntmps193
  go_wp2_with (first
    | (go_at_call 65; refine (unhide HME).mono ?_; rintro e w1 ⟨rfl, hb1⟩; have HB1 := hide hb1; clear hb1; unfold KinM.agg)
    | (go_at_call 84; refine ((unhide HFI) _ (by exact (unhide HB1).alloc (unhide HB1).size _)).mono ?_; rintro e w2 ⟨rfl, hb2⟩; have hB1 := (unhide HB1).alloc (unhide HB1).size (.cells #[.int .i64 ksp, .string knm] 122); have HB2 := hide (hB1.trans (hb2.mono hB1.size)); have hkb := (hb2.block w1.heap.size (by simp)).trans (heap_alloc_new w1 (.cells #[.int .i64 ksp, .string knm] 122)); have k0 : w2.cell? ⟨w1.heap.size, 0, none⟩ = some (.int .i64 ksp) := cell_of_row _ _ 0 _ _ _ hkb; have k1 : w2.cell? ⟨w1.heap.size, 1, none⟩ = some (.string knm) := cell_of_row _ _ 1 _ _ _ hkb; have HKB := hide hkb; have c2 := (unhide HC) w2 (unhide HB2); clear hb2 hB1 hkb)
    | (go_at_call 53; refine ((unhide HM) _ (unhide HB2)).mono ?_; rintro e w9 ⟨rfl, rfl⟩)
    | (go_at_call 55; refine ((unhide HAT) _ (unhide HB2)).mono ?_; rintro e w9 ⟨b, rfl, hpb, hen, rfl⟩; obtain ⟨ao, ac, so, sc, hbl, hA1, hA2⟩ := hen.lies; have HPB := hide hpb; have HBL := hide hbl; have HA1 := hide hA1; have HA2 := hide hA2; have hne : ¬ b = w1.heap.size := (fun e => by have h9 := unhide HKB; rw [← e, hbl] at h9; cases h9); have hne2 : ¬ w1.heap.size = b := (fun e => hne e.symm); obtain ⟨b0, b1, b2, f0, f1, f2⟩ : w2.cell? ⟨b, 0, none⟩ = some (.int .i64 x.node) ∧ w2.cell? ⟨b, 1, none⟩ = some (.int .i64 x.sp) ∧ w2.cell? ⟨b, 2, none⟩ = some (.string x.nm) ∧ w2.frozen? ⟨b, 0, none⟩ = false ∧ w2.frozen? ⟨b, 1, none⟩ = false ∧ w2.frozen? ⟨b, 2, none⟩ = false := ⟨cell_of_row _ _ 0 _ _ _ hbl, cell_of_row _ _ 1 _ _ _ hbl, cell_of_row _ _ 2 _ _ _ hbl, free_row hbl 0, free_row hbl 1, free_row hbl 2⟩; clear hpb hen hbl hA1 hA2; unfold ptrV))
  go_region
  go_wp2
  go_ret
  refine ⟨rfl, (unhide HEND) w2 _ (unhide HB2) b _ (unhide HPB) (((Mod.setCell (F := fun k => k = b) w2 ⟨b, 0, none⟩ _ rfl).trans (Mod.setCell (F := fun k => k = b) _ ⟨b, 1, none⟩ _ rfl)).trans ((Mod.setCell (F := fun k => k = b) _ ⟨b, 2, none⟩ _ rfl).trans (mod_drew _))) rfl ao so ac sc (unhide HBL) (unhide HA1) (unhide HA2) ?_⟩
  have e0 := heap_setCell_same w2 b 0 _ _ (.int .i64 id) (unhide HBL)
  have e1 := heap_setCell_same _ b 1 _ _ (.int .i64 ksp) e0
  have e2 := heap_setCell_same _ b 2 _ _ (.string knm) e1
  simp [EntM.cells] at e2
  exact e2

set_option maxHeartbeats 2000000 in
theorem lswap_none (ha : ArK w baseA bA ks FA) (h : LiM w base bL bA bW F v ps es) (hF : ∀ k, FL k ↔ (k = bL ∨ F k)) (hl : es.length < 1000000000000) (old id : Int) (hp : placeE es old < 0) :
    Calls Tryz.prog 193 #[.pointer (some ⟨bL, 0, none⟩), .int .i64 old, .int .i64 id] w fun e w' => e = .returned (.int .i64 6) ∧ UpdL FL w w' base bL bA es := by
  have HME := hide (mayEnter_any ha h hl id)
  have HFI : Hid (∀ W, Below w.heap.size w W → Calls Tryz.prog 84 #[.pointer (some ⟨bL, 0, none⟩), .int .i64 old] W fun e w' => e = .returned (.int .i64 (placeE es old)) ∧ Below W.heap.size W w') := hide (fun W hb => lfind_any (h.below hb) hl old)
  have HM := hide (fun (W : World) (hb : Below w.heap.size w W) => lmade_any (h.below hb))
  have HER := hide (fun (W : World) (hb : Below w.heap.size w W) => UpdL.after hb (LiS.upd (show LiS W base bL bA es FL from ⟨bW, v, ps, F, h.below hb, hF⟩) (Below.refl _ W)))
  clear ha h hF hl
  generalize enterEAc ks es id = en at *
  generalize enterK ks es id = ek at *
  generalize placeE es old = pl at *
  obtain ⟨ksp, knm⟩ := ek
  go_enter Tryz.func193, Tryz.ntmps193
  go_wp2_with (first
    | (go_at_call 65; refine (unhide HME).mono ?_; rintro e w1 ⟨rfl, hb1⟩; have HB1 := hide hb1; clear hb1; unfold KinM.agg)
    | (go_at_call 84; refine ((unhide HFI) _ (by exact (unhide HB1).alloc (unhide HB1).size _)).mono ?_; rintro e w2 ⟨rfl, hb2⟩; have hB1 := (unhide HB1).alloc (unhide HB1).size (.cells #[.int .i64 ksp, .string knm] 122); have HB2 := hide (hB1.trans (hb2.mono hB1.size)); clear hb2 hB1)
    | (go_at_call 53; refine ((unhide HM) _ (unhide HB2)).mono ?_; rintro e w9 ⟨rfl, rfl⟩))
  go_ret
  exact ⟨rfl, (unhide HER) _ (unhide HB2)⟩

set_option maxHeartbeats 2000000 in
theorem lswap_err (ha : ArK w baseA bA ks FA) (h : LiM w base bL bA bW F v ps es) (hF : ∀ k, FL k ↔ (k = bL ∨ F k)) (hl : es.length < 1000000000000) (old id : Int) (hp : ¬ placeE es old < 0) (hE : ¬ enterEAc ks es id = 0) :
    Calls Tryz.prog 193 #[.pointer (some ⟨bL, 0, none⟩), .int .i64 old, .int .i64 id] w fun e w' => e = .returned (.int .i64 (enterEAc ks es id)) ∧ UpdL FL w w' base bL bA es := by
  have HME := hide (mayEnter_any ha h hl id)
  have HFI : Hid (∀ W, Below w.heap.size w W → Calls Tryz.prog 84 #[.pointer (some ⟨bL, 0, none⟩), .int .i64 old] W fun e w' => e = .returned (.int .i64 (placeE es old)) ∧ Below W.heap.size W w') := hide (fun W hb => lfind_any (h.below hb) hl old)
  have HM := hide (fun (W : World) (hb : Below w.heap.size w W) => lmade_any (h.below hb))
  have HER := hide (fun (W : World) (hb : Below w.heap.size w W) => UpdL.after hb (LiS.upd (show LiS W base bL bA es FL from ⟨bW, v, ps, F, h.below hb, hF⟩) (Below.refl _ W)))
  clear ha h hF hl
  have hE' : (enterEAc ks es id != 0) = true := by simpa using hE
  generalize enterEAc ks es id = en at *
  generalize enterK ks es id = ek at *
  generalize placeE es old = pl at *
  obtain ⟨ksp, knm⟩ := ek
  go_enter Tryz.func193, Tryz.ntmps193
  go_wp2_with (first
    | (go_at_call 65; refine (unhide HME).mono ?_; rintro e w1 ⟨rfl, hb1⟩; have HB1 := hide hb1; clear hb1; unfold KinM.agg)
    | (go_at_call 84; refine ((unhide HFI) _ (by exact (unhide HB1).alloc (unhide HB1).size _)).mono ?_; rintro e w2 ⟨rfl, hb2⟩; have hB1 := (unhide HB1).alloc (unhide HB1).size (.cells #[.int .i64 ksp, .string knm] 122); have HB2 := hide (hB1.trans (hb2.mono hB1.size)); clear hb2 hB1)
    | (go_at_call 53; refine ((unhide HM) _ (unhide HB2)).mono ?_; rintro e w9 ⟨rfl, rfl⟩))
  go_ret
  exact ⟨rfl, (unhide HER) _ (unhide HB2)⟩

theorem lswap_any (ha : ArK w baseA bA ks FA) (h : LiM w base bL bA bW F v ps es) (hF : ∀ k, FL k ↔ (k = bL ∨ F k)) (hl : es.length < 1000000000000) (old id : Int) :
    Calls Tryz.prog 193 #[.pointer (some ⟨bL, 0, none⟩), .int .i64 old, .int .i64 id] w fun e w' => e = .returned (.int .i64 (swapA ks es old id)) ∧ UpdL FL w w' base bL bA (swapEAc ks es old id) := by
  unfold swapEAc swapA
  by_cases hp : placeE es old < 0
  · rw [if_pos hp, if_neg (by decide)]
    exact lswap_none ha h hF hl old id hp
  · rw [if_neg hp]
    by_cases hE : enterEAc ks es id = 0
    · rw [if_pos hE, hE]
      have hlt := placeE_lt es old
      obtain ⟨n, hn⟩ : ∃ n : Nat, placeE es old = n := ⟨(placeE es old).toNat, by omega⟩
      rw [hn, Int.toNat_natCast]
      have hn2 : n < es.length := by omega
      have hx : es[n]? = some es[n] := List.getElem?_eq_getElem hn2
      have hg : es.getD n mark0 = es[n] := by rw [List.getD_eq_getElem?_getD, hx]; rfl
      rw [hg]
      exact lswap_yes ha h hF hl old id hE n hn hx
    · rw [if_neg hE]
      exact lswap_err ha h hF hl old id hp hE
end
section
variable {w wx : World} {obs : List (Ob w.heap.size)} {i j bL bA : Nat} {es : List EntM} {ks : List Key}
theorem env_lswap (h : Env w wx obs) (hi : obs[i]? = some (arOb _ bA ks)) (hj : obs[j]? = some (liOb _ bL bA es)) (hl : es.length < 1000000000000) (old id : Int) :
    Calls Tryz.prog 193 #[.pointer (some ⟨bL, 0, none⟩), .int .i64 old, .int .i64 id] wx fun e w' => e = .returned (.int .i64 (swapA ks es old id)) ∧ Env w w' (obs.set j (liOb _ bL bA (swapEAc ks es old id))) := by
  obtain ⟨FA, h1, _⟩ := h.ar hi
  obtain ⟨F, ⟨bW, v, ps, R, hm, hF⟩, h3⟩ := h.li hj
  exact (lswap_any h1 hm hF hl old id).mono fun _ _ ⟨a, b⟩ => ⟨a, h3 _ _ b⟩
end
end Go.Proofs.YtmkdnmkckipnaaaGreat
