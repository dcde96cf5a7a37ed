/-
  Package active: an entry put in at a place, or not. Package active: an entry's element swapped. Package active: what stands at a place. The document's list of active elements in memory; a new one; where an element stands; what stands at a place.
-/
import Derived.Test.YtkakncngkmoegaaGreatTZbb
namespace Go.Proofs.YtkakncngkmoegaaGreat
open Go.RowKit Go.Sort

section
variable {w : World} {base baseA bL bA bW : Nat} {ks : List Key} {F FA FL : Nat → Prop} {v : Value} {ps : List Nat} {es : List EntM}
set_option maxHeartbeats 2000000 in
theorem lput_err (ha : ArK w baseA bA ks FA) (h : LiM w base bL bA bW F v ps es) (hF : ∀ k, FL k ↔ (k = bL ∨ F k)) (hl : es.length < 1000000000000) (id : Int) (t : TokM) (a : Option Addr) (cap : Nat) (hE : ¬ enterEAc ks es id = 0) (i : Int) :
    Calls Tryz.prog 126 #[.pointer (some ⟨bL, 0, none⟩), .int .i64 i, .int .i64 id, .agg (t.cells (.slice a t.attrs.length cap)).toArray] w fun e w' => e = .returned (.int .i64 (enterEAc ks es id)) ∧ UpdL FL w w' base bL bA es := by
  have HME := hide (fun (W : World) (hb : Below w.heap.size w W) => mayEnter_any (ha.below hb) (h.below hb) hl id)
  have HLE := hide (fun (W : World) (hb : Below w.heap.size w W) => llen_any (h.below hb))
  have HER := hide (fun (W : World) (hb : Below w.heap.size w W) => UpdL.after hb (LiS.upd (show LiS W base bL bA es FL from ⟨bW, v, ps, F, h.below hb, hF⟩) (Below.refl _ W)))
  clear ha h hF hl
  have hE' : (enterEAc ks es id != 0) = true := by simpa using hE
  generalize enterEAc ks es id = en at *
  generalize (enterK ks es id) = ek at *
  obtain ⟨ksp, knm⟩ := ek
  obtain ⟨t0, t1, t2, t3, t4, t5, t6, t7, ta⟩ := t
  simp only [TokM.cells] at *
  have HT : Hid (∀ w1, Below (w.alloc (.cells #[.int .i64 t0, .string t1, .string t2, .string t3, .int .i64 t4, .bool t5, .int .i32 t6, .bool t7, .slice a ta.length cap] 52)).heap.size (w.alloc (.cells #[.int .i64 t0, .string t1, .string t2, .string t3, .int .i64 t4, .bool t5, .int .i32 t6, .bool t7, .slice a ta.length cap] 52)) w1 → (w1.cell? ⟨w.heap.size, 0, none⟩ = some (.int .i64 t0) ∧ w1.cell? ⟨w.heap.size, 1, none⟩ = some (.string t1) ∧ w1.cell? ⟨w.heap.size, 2, none⟩ = some (.string t2) ∧ w1.cell? ⟨w.heap.size, 3, none⟩ = some (.string t3) ∧ w1.cell? ⟨w.heap.size, 4, none⟩ = some (.int .i64 t4) ∧ w1.cell? ⟨w.heap.size, 5, none⟩ = some (.bool t5) ∧ w1.cell? ⟨w.heap.size, 6, none⟩ = some (.int .i32 t6) ∧ w1.cell? ⟨w.heap.size, 7, none⟩ = some (.bool t7) ∧ w1.cell? ⟨w.heap.size, 8, none⟩ = some (.slice a ta.length cap)) ∧ Below w.heap.size w w1 ∧ ¬ w.heap.size = w1.heap.size ∧ ¬ w1.heap.size = w.heap.size) := hide (fun w1 hb => by
    have hbl := (hb.block _ (by simp)).trans (heap_alloc_new w (.cells #[.int .i64 t0, .string t1, .string t2, .string t3, .int .i64 t4, .bool t5, .int .i32 t6, .bool t7, .slice a ta.length cap] 52))
    obtain ⟨d0, d1, d2, d3, d4, d5, d6, d7, d8, _⟩ := nine hbl
    have := lt_of_block hbl
    exact ⟨⟨d0, d1, d2, d3, d4, d5, d6, d7, d8⟩, (below_newAc w _).trans (hb.mono (by simp)), by omega, by omega⟩)
  go_enter Tryz.func126, Tryz.ntmps126
  go_wp2_with (first | (go_at_call 65; refine ((unhide HME) _ (by exact below_newAc _ _)).mono ?_; rintro e w1 ⟨rfl, hb1⟩; obtain ⟨_, hbw, kne, kne2⟩ := (unhide HT) w1 hb1; obtain ⟨⟨d0, d1, d2, d3, d4, d5, d6, d7, d8⟩, _⟩ := (unhide HT) (w1.alloc (.cells #[.int .i64 ksp, .string knm] 123)) (hb1.alloc hb1.size _); have HB1 := hide hbw; clear hb1 hbw; unfold KinM.agg))
  go_ret
  exact ⟨rfl, (unhide HER) _ ((unhide HB1).alloc (unhide HB1).size _)⟩

set_option maxHeartbeats 2000000 in
theorem lput_no (ha : ArK w baseA bA ks FA) (h : LiM w base bL bA bW F v ps es) (hF : ∀ k, FL k ↔ (k = bL ∨ F k)) (hl : es.length < 1000000000000) (id : Int) (t : TokM) (a : Option Addr) (cap : Nat) (hE : enterEAc ks es id = 0) (i : Int) (hi : i < 0 ∨ (es.length : Int) < i) :
    Calls Tryz.prog 126 #[.pointer (some ⟨bL, 0, none⟩), .int .i64 i, .int .i64 id, .agg (t.cells (.slice a t.attrs.length cap)).toArray] w fun e w' => e = .returned (.int .i64 1) ∧ UpdL FL w w' base bL bA es := by
  have HME := hide (fun (W : World) (hb : Below w.heap.size w W) => mayEnter_any (ha.below hb) (h.below hb) hl id)
  have HLE := hide (fun (W : World) (hb : Below w.heap.size w W) => llen_any (h.below hb))
  have HER := hide (fun (W : World) (hb : Below w.heap.size w W) => UpdL.after hb (LiS.upd (show LiS W base bL bA es FL from ⟨bW, v, ps, F, h.below hb, hF⟩) (Below.refl _ W)))
  clear ha h hF hl
  rw [hE] at HME
  clear hE
  generalize (enterK ks es id) = ek at *
  obtain ⟨ksp, knm⟩ := ek
  obtain ⟨t0, t1, t2, t3, t4, t5, t6, t7, ta⟩ := t
  simp only [TokM.cells] at *
  have HT : Hid (∀ w1, Below (w.alloc (.cells #[.int .i64 t0, .string t1, .string t2, .string t3, .int .i64 t4, .bool t5, .int .i32 t6, .bool t7, .slice a ta.length cap] 52)).heap.size (w.alloc (.cells #[.int .i64 t0, .string t1, .string t2, .string t3, .int .i64 t4, .bool t5, .int .i32 t6, .bool t7, .slice a ta.length cap] 52)) w1 → (w1.cell? ⟨w.heap.size, 0, none⟩ = some (.int .i64 t0) ∧ w1.cell? ⟨w.heap.size, 1, none⟩ = some (.string t1) ∧ w1.cell? ⟨w.heap.size, 2, none⟩ = some (.string t2) ∧ w1.cell? ⟨w.heap.size, 3, none⟩ = some (.string t3) ∧ w1.cell? ⟨w.heap.size, 4, none⟩ = some (.int .i64 t4) ∧ w1.cell? ⟨w.heap.size, 5, none⟩ = some (.bool t5) ∧ w1.cell? ⟨w.heap.size, 6, none⟩ = some (.int .i32 t6) ∧ w1.cell? ⟨w.heap.size, 7, none⟩ = some (.bool t7) ∧ w1.cell? ⟨w.heap.size, 8, none⟩ = some (.slice a ta.length cap)) ∧ Below w.heap.size w w1 ∧ ¬ w.heap.size = w1.heap.size ∧ ¬ w1.heap.size = w.heap.size) := hide (fun w1 hb => by
    have hbl := (hb.block _ (by simp)).trans (heap_alloc_new w (.cells #[.int .i64 t0, .string t1, .string t2, .string t3, .int .i64 t4, .bool t5, .int .i32 t6, .bool t7, .slice a ta.length cap] 52))
    obtain ⟨d0, d1, d2, d3, d4, d5, d6, d7, d8, _⟩ := nine hbl
    have := lt_of_block hbl
    exact ⟨⟨d0, d1, d2, d3, d4, d5, d6, d7, d8⟩, (below_newAc w _).trans (hb.mono (by simp)), by omega, by omega⟩)
  by_cases h0 : i < 0
  · clear hi
    go_enter Tryz.func126, Tryz.ntmps126
    go_wp2_with (first | (go_at_call 65; refine ((unhide HME) _ (by exact below_newAc _ _)).mono ?_; rintro e w1 ⟨rfl, hb1⟩; obtain ⟨_, hbw, kne, kne2⟩ := (unhide HT) w1 hb1; obtain ⟨⟨d0, d1, d2, d3, d4, d5, d6, d7, d8⟩, _⟩ := (unhide HT) (w1.alloc (.cells #[.int .i64 ksp, .string knm] 123)) (hb1.alloc hb1.size _); have HB1 := hide hbw; clear hb1 hbw; unfold KinM.agg) | (go_at_call 16; refine ((unhide HLE) _ (by exact (unhide HB1).alloc (unhide HB1).size _)).mono ?_; rintro e w9 ⟨rfl, rfl⟩))
    go_ret
    exact ⟨rfl, (unhide HER) _ ((unhide HB1).alloc (unhide HB1).size _)⟩
  · have h1 : (es.length : Int) < i := by omega
    clear hi
    go_enter Tryz.func126, Tryz.ntmps126
    go_wp2_with (first | (go_at_call 65; refine ((unhide HME) _ (by exact below_newAc _ _)).mono ?_; rintro e w1 ⟨rfl, hb1⟩; obtain ⟨_, hbw, kne, kne2⟩ := (unhide HT) w1 hb1; obtain ⟨⟨d0, d1, d2, d3, d4, d5, d6, d7, d8⟩, _⟩ := (unhide HT) (w1.alloc (.cells #[.int .i64 ksp, .string knm] 123)) (hb1.alloc hb1.size _); have HB1 := hide hbw; clear hb1 hbw; unfold KinM.agg) | (go_at_call 16; refine ((unhide HLE) _ (by exact (unhide HB1).alloc (unhide HB1).size _)).mono ?_; rintro e w9 ⟨rfl, rfl⟩))
    go_ret
    exact ⟨rfl, (unhide HER) _ ((unhide HB1).alloc (unhide HB1).size _)⟩

theorem lput_any (ha : ArK w baseA bA ks FA) (h : LiM w base bL bA bW F v ps es) (hF : ∀ k, FL k ↔ (k = bL ∨ F k)) (hl : es.length < 1000000000000) (id : Int) (t : TokM) (a : Option Addr) (cap : Nat) (hi : AttrsIn w a t.attrs) (hn : t.attrs.length ≤ 2513169434916) (i : Int) :
    Calls Tryz.prog 126 #[.pointer (some ⟨bL, 0, none⟩), .int .i64 i, .int .i64 id, .agg (t.cells (.slice a t.attrs.length cap)).toArray] w fun e w' => e = .returned (.int .i64 (putA ks es i id)) ∧ UpdL FL w w' base bL bA (putEAc ks es i id t) := by
  unfold putEAc
  by_cases hE : enterEAc ks es id = 0
  · by_cases hr : i < 0 ∨ (es.length : Int) < i
    · rw [putA_no hE hr, if_neg (by decide)]
      exact lput_no ha h hF hl id t a cap hE i hr
    · obtain ⟨n, rfl⟩ : ∃ n : Nat, i = n := ⟨i.toNat, by omega⟩
      have hn2 : n ≤ es.length := by omega
      rw [putA_yes hE hn2, if_pos rfl]
      exact lput_yes ha h hF hl id t a cap hi hn hE n hn2
  · rw [putA_err hE, if_neg hE]
    exact lput_err ha h hF hl id t a cap hE i
end
section
variable {w wx : World} {obs : List (Ob w.heap.size)} {i j bL bA : Nat} {es : List EntM} {ks : List Key}
end
end Go.Proofs.YtkakncngkmoegaaGreat

namespace Go.Proofs.YtkakncngkmoegaaGreat
open Go.RowKit Go.Sort

/-- What Swap answers, and what it makes of the list. -/
def swapA (ks : List Key) (es : List EntM) (old id : Int) : Int := if placeE es old < 0 then 6 else enterEAc ks es id
def kinE (x : EntM) (id : Int) (k : KinM) : EntM := ⟨id, k.sp, k.nm, x.tok⟩
def swapEAc (ks : List Key) (es : List EntM) (old id : Int) : List EntM := if swapA ks es old id = 0 then es.set (placeE es old).toNat (kinE (es.getD (placeE es old).toNat mark0) id (enterK ks es id)) else es

section
variable {w w' : World} {base baseA bL bA bW : Nat} {ks : List Key} {F FA FL : Nat → Prop} {v : Value} {ps : List Nat} {es : List EntM}
/-- The row whose entry at a place was written anew, its lists aside. -/
theorem RowMAc.swapped (h : RowMAc w base bW F v ps es) {i b : Nat} {x y : EntM} (hi : es[i]? = some x) (hb : ps[i]? = some b) (hm : Mod (fun k => k = b) w w') (ht : y.tok = x.tok) {ao so : Option Addr} {ac sc : Nat}
    (h1 : w.heap[b]? = some (.cells (x.cells (.slice ao x.tok.attrs.length ac) (.slice so (setL x.tok.attrs).length sc)).toArray 125 (0, 0)))
    (h2 : AtrF w F ao x.tok.attrs) (h3 : AtrF w F so (setL x.tok.attrs))
    (h4 : w'.heap[b]? = some (.cells (y.cells (.slice ao x.tok.attrs.length ac) (.slice so (setL x.tok.attrs).length sc)).toArray 125 (0, 0))) : RowMAc w' base bW F v ps (es.set i y) := by
  have hxi := h.ents i b x hb hi
  have hk : ∀ k cur, F k → w.heap[k]? = some (.cells cur 148 (0, 0)) → w'.heap[k]? = w.heap[k]? := fun k cur _ hc => hm.block k (lt_of_block hc) (fun e => by
    subst e
    rw [h1] at hc
    cases hc)
  refine ⟨(hm.block bW (lt_of_block h.box) (fun e => by have := h.box; rw [e, h1] at this; cases this)).trans h.box, ownsRow_kept h.own (fun k hk2 => ?_), by rw [List.length_set]; exact h.len, h.nodup, fun j c z hc hz => ?_, h.fb, h.fv, fun k hk2 => ⟨(h.lt k hk2).1, Nat.lt_of_lt_of_le (h.lt k hk2).2 hm.size⟩⟩
  · obtain ⟨cur, hc⟩ := ownsRow_block h.own hk2
    exact hm.block k (lt_of_block hc) (fun e => by
      subst e
      rw [h1] at hc
      cases hc)
  · by_cases e : i = j
    · subst e
      rw [hb] at hc
      cases hc
      rw [List.getElem?_set_self (List.getElem?_eq_some_iff.1 hi).1] at hz
      cases hz
      rw [← ht] at h2 h3 h4
      refine ⟨hxi.fb, by rw [ht]; exact hxi.few, ao, ac, so, sc, h4, h2.keep hk, h3.keep hk⟩
    · rw [List.getElem?_set_ne e] at hz
      have hne : c ≠ b := fun e2 => by
        subst e2
        have hl := (List.getElem?_eq_some_iff.1 hc).1
        exact e ((List.getElem?_inj (List.getElem?_eq_some_iff.1 hb).1 h.nodup).1 (hb.trans hc.symm))
      have hz2 := h.ents j c z hc hz
      exact hz2.keep (hm.block c hz2.lt hne) hk

set_option maxHeartbeats 2000000 in
theorem lswap_yes (ha : ArK w baseA bA ks FA) (h : LiM w base bL bA bW F v ps es) (hF : ∀ k, FL k ↔ (k = bL ∨ F k)) (hl : es.length < 1000000000000) (old id : Int) (hE : enterEAc ks es id = 0) (n : Nat) (hn : placeE es old = n) {x : EntM} (hx : es[n]? = some x) :
    Calls Tryz.prog 190 #[.pointer (some ⟨bL, 0, none⟩), .int .i64 old, .int .i64 id] w fun e w' => e = .returned (.int .i64 0) ∧ UpdL FL w w' base bL bA (es.set n (kinE x id (enterK ks es id))) := by
  have HME := hide (mayEnter_any ha h hl id)
  have HFI : Hid (∀ W, Below w.heap.size w W → Calls Tryz.prog 84 #[.pointer (some ⟨bL, 0, none⟩), .int .i64 old] W fun e w' => e = .returned (.int .i64 (placeE es old)) ∧ Below W.heap.size W w') := hide (fun W hb => lfind_any (h.below hb) hl old)
  have HM := hide (fun (W : World) (hb : Below w.heap.size w W) => lmade_any (h.below hb))
  have HC : Hid (∀ W, Below w.heap.size w W → W.cell? ⟨bL, 1, none⟩ = some (.pointer (some ⟨bW, 0, none⟩))) := hide (fun W hb => ((h.below hb).cells).2)
  have HAT := hide (fun (W : World) (hb : Below w.heap.size w W) => rat_any (h.below hb).row hx)
  have HEND := hide (fun (W W' : World) (hb : Below w.heap.size w W) (b : Nat) (y : EntM) (hpb : ps[n]? = some b) (hm : Mod (fun k => k = b) W W') (ht : y.tok = x.tok) (ao so : Option Addr) (ac sc : Nat) h1 h2 h3 h4 => show UpdL FL w W' base bL bA (es.set n y) from by
    have h5 := (h.below hb).row.swapped hx hpb hm ht (ao := ao) (so := so) (ac := ac) (sc := sc) h1 h2 h3 h4
    have hfb := ((h.below hb).row.ents n b x hpb hx).fb
    exact UpdL.after hb ((h.below hb).upd hF ⟨F, ⟨v, ps, h5⟩, hm.mono (fun k _ e => by subst e; exact hfb), fun _ e => .inl e⟩))
  rw [hE] at HME
  rw [hn] at HFI
  have hn0 : ¬ (n : Int) < 0 := by omega
  clear ha h hF hl hE hn hx
  generalize enterK ks es id = ek at *
  obtain ⟨ksp, knm⟩ := ek
  unfold kinE
  go_enter Tryz.func190, Tryz.ntmps190
  go_wp2_with (first
    | (go_at_call 65; refine (unhide HME).mono ?_; rintro e w1 ⟨rfl, hb1⟩; have HB1 := hide hb1; clear hb1; unfold KinM.agg)
    | (go_at_call 84; refine ((unhide HFI) _ (by exact (unhide HB1).alloc (unhide HB1).size _)).mono ?_; rintro e w2 ⟨rfl, hb2⟩; have hB1 := (unhide HB1).alloc (unhide HB1).size (.cells #[.int .i64 ksp, .string knm] 123); have HB2 := hide (hB1.trans (hb2.mono hB1.size)); have hkb := (hb2.block w1.heap.size (by simp)).trans (heap_alloc_new w1 (.cells #[.int .i64 ksp, .string knm] 123)); have k0 : w2.cell? ⟨w1.heap.size, 0, none⟩ = some (.int .i64 ksp) := cell_of_row _ _ 0 _ _ _ hkb; have k1 : w2.cell? ⟨w1.heap.size, 1, none⟩ = some (.string knm) := cell_of_row _ _ 1 _ _ _ hkb; have HKB := hide hkb; have c2 := (unhide HC) w2 (unhide HB2); clear hb2 hB1 hkb)
    | (go_at_call 53; refine ((unhide HM) _ (unhide HB2)).mono ?_; rintro e w9 ⟨rfl, rfl⟩)
    | (go_at_call 55; refine ((unhide HAT) _ (unhide HB2)).mono ?_; rintro e w9 ⟨b, rfl, hpb, hen, rfl⟩; obtain ⟨ao, ac, so, sc, hbl, hA1, hA2⟩ := hen.lies; have HPB := hide hpb; have HBL := hide hbl; have HA1 := hide hA1; have HA2 := hide hA2; have hne : ¬ b = w1.heap.size := (fun e => by have h9 := unhide HKB; rw [← e, hbl] at h9; cases h9); have hne2 : ¬ w1.heap.size = b := (fun e => hne e.symm); obtain ⟨b0, b1, b2, f0, f1, f2⟩ : w2.cell? ⟨b, 0, none⟩ = some (.int .i64 x.node) ∧ w2.cell? ⟨b, 1, none⟩ = some (.int .i64 x.sp) ∧ w2.cell? ⟨b, 2, none⟩ = some (.string x.nm) ∧ w2.frozen? ⟨b, 0, none⟩ = false ∧ w2.frozen? ⟨b, 1, none⟩ = false ∧ w2.frozen? ⟨b, 2, none⟩ = false := ⟨cell_of_row _ _ 0 _ _ _ hbl, cell_of_row _ _ 1 _ _ _ hbl, cell_of_row _ _ 2 _ _ _ hbl, free_row hbl 0, free_row hbl 1, free_row hbl 2⟩; clear hpb hen hbl hA1 hA2; unfold ptrV))
  go_region
  go_wp2
  go_ret
  refine ⟨rfl, (unhide HEND) w2 _ (unhide HB2) b _ (unhide HPB) (((Mod.setCell (F := fun k => k = b) w2 ⟨b, 0, none⟩ _ rfl).trans (Mod.setCell (F := fun k => k = b) _ ⟨b, 1, none⟩ _ rfl)).trans ((Mod.setCell (F := fun k => k = b) _ ⟨b, 2, none⟩ _ rfl).trans (mod_drew _))) rfl ao so ac sc (unhide HBL) (unhide HA1) (unhide HA2) ?_⟩
  have e0 := heap_setCell_same w2 b 0 _ _ (.int .i64 id) (unhide HBL)
  have e1 := heap_setCell_same _ b 1 _ _ (.int .i64 ksp) e0
  have e2 := heap_setCell_same _ b 2 _ _ (.string knm) e1
  simp [EntM.cells] at e2
  exact e2

set_option maxHeartbeats 2000000 in
theorem lswap_none (ha : ArK w baseA bA ks FA) (h : LiM w base bL bA bW F v ps es) (hF : ∀ k, FL k ↔ (k = bL ∨ F k)) (hl : es.length < 1000000000000) (old id : Int) (hp : placeE es old < 0) :
    Calls Tryz.prog 190 #[.pointer (some ⟨bL, 0, none⟩), .int .i64 old, .int .i64 id] w fun e w' => e = .returned (.int .i64 6) ∧ UpdL FL w w' base bL bA es := by
  have HME := hide (mayEnter_any ha h hl id)
  have HFI : Hid (∀ W, Below w.heap.size w W → Calls Tryz.prog 84 #[.pointer (some ⟨bL, 0, none⟩), .int .i64 old] W fun e w' => e = .returned (.int .i64 (placeE es old)) ∧ Below W.heap.size W w') := hide (fun W hb => lfind_any (h.below hb) hl old)
  have HM := hide (fun (W : World) (hb : Below w.heap.size w W) => lmade_any (h.below hb))
  have HER := hide (fun (W : World) (hb : Below w.heap.size w W) => UpdL.after hb (LiS.upd (show LiS W base bL bA es FL from ⟨bW, v, ps, F, h.below hb, hF⟩) (Below.refl _ W)))
  clear ha h hF hl
  generalize enterEAc ks es id = en at *
  generalize enterK ks es id = ek at *
  generalize placeE es old = pl at *
  obtain ⟨ksp, knm⟩ := ek
  go_enter Tryz.func190, Tryz.ntmps190
  go_wp2_with (first
    | (go_at_call 65; refine (unhide HME).mono ?_; rintro e w1 ⟨rfl, hb1⟩; have HB1 := hide hb1; clear hb1; unfold KinM.agg)
    | (go_at_call 84; refine ((unhide HFI) _ (by exact (unhide HB1).alloc (unhide HB1).size _)).mono ?_; rintro e w2 ⟨rfl, hb2⟩; have hB1 := (unhide HB1).alloc (unhide HB1).size (.cells #[.int .i64 ksp, .string knm] 123); have HB2 := hide (hB1.trans (hb2.mono hB1.size)); clear hb2 hB1)
    | (go_at_call 53; refine ((unhide HM) _ (unhide HB2)).mono ?_; rintro e w9 ⟨rfl, rfl⟩))
  go_ret
  exact ⟨rfl, (unhide HER) _ (unhide HB2)⟩

set_option maxHeartbeats 2000000 in
theorem lswap_err (ha : ArK w baseA bA ks FA) (h : LiM w base bL bA bW F v ps es) (hF : ∀ k, FL k ↔ (k = bL ∨ F k)) (hl : es.length < 1000000000000) (old id : Int) (hp : ¬ placeE es old < 0) (hE : ¬ enterEAc ks es id = 0) :
    Calls Tryz.prog 190 #[.pointer (some ⟨bL, 0, none⟩), .int .i64 old, .int .i64 id] w fun e w' => e = .returned (.int .i64 (enterEAc ks es id)) ∧ UpdL FL w w' base bL bA es := by
  have HME := hide (mayEnter_any ha h hl id)
  have HFI : Hid (∀ W, Below w.heap.size w W → Calls Tryz.prog 84 #[.pointer (some ⟨bL, 0, none⟩), .int .i64 old] W fun e w' => e = .returned (.int .i64 (placeE es old)) ∧ Below W.heap.size W w') := hide (fun W hb => lfind_any (h.below hb) hl old)
  have HM := hide (fun (W : World) (hb : Below w.heap.size w W) => lmade_any (h.below hb))
  have HER := hide (fun (W : World) (hb : Below w.heap.size w W) => UpdL.after hb (LiS.upd (show LiS W base bL bA es FL from ⟨bW, v, ps, F, h.below hb, hF⟩) (Below.refl _ W)))
  clear ha h hF hl
  have hE' : (enterEAc ks es id != 0) = true := by simpa using hE
  generalize enterEAc ks es id = en at *
  generalize enterK ks es id = ek at *
  generalize placeE es old = pl at *
  obtain ⟨ksp, knm⟩ := ek
  go_enter Tryz.func190, Tryz.ntmps190
  go_wp2_with (first
    | (go_at_call 65; refine (unhide HME).mono ?_; rintro e w1 ⟨rfl, hb1⟩; have HB1 := hide hb1; clear hb1; unfold KinM.agg)
    | (go_at_call 84; refine ((unhide HFI) _ (by exact (unhide HB1).alloc (unhide HB1).size _)).mono ?_; rintro e w2 ⟨rfl, hb2⟩; have hB1 := (unhide HB1).alloc (unhide HB1).size (.cells #[.int .i64 ksp, .string knm] 123); have HB2 := hide (hB1.trans (hb2.mono hB1.size)); clear hb2 hB1)
    | (go_at_call 53; refine ((unhide HM) _ (unhide HB2)).mono ?_; rintro e w9 ⟨rfl, rfl⟩))
  go_ret
  exact ⟨rfl, (unhide HER) _ (unhide HB2)⟩

theorem lswap_any (ha : ArK w baseA bA ks FA) (h : LiM w base bL bA bW F v ps es) (hF : ∀ k, FL k ↔ (k = bL ∨ F k)) (hl : es.length < 1000000000000) (old id : Int) :
    Calls Tryz.prog 190 #[.pointer (some ⟨bL, 0, none⟩), .int .i64 old, .int .i64 id] w fun e w' => e = .returned (.int .i64 (swapA ks es old id)) ∧ UpdL FL w w' base bL bA (swapEAc ks es old id) := by
  unfold swapEAc swapA
  by_cases hp : placeE es old < 0
  · rw [if_pos hp, if_neg (by decide)]
    exact lswap_none ha h hF hl old id hp
  · rw [if_neg hp]
    by_cases hE : enterEAc ks es id = 0
    · rw [if_pos hE, hE]
      have hlt := placeE_lt es old
      obtain ⟨n, hn⟩ : ∃ n : Nat, placeE es old = n := ⟨(placeE es old).toNat, by omega⟩
      rw [hn, Int.toNat_natCast]
      have hn2 : n < es.length := by omega
      have hx : es[n]? = some es[n] := List.getElem?_eq_getElem hn2
      have hg : es.getD n mark0 = es[n] := by rw [List.getD_eq_getElem?_getD, hx]; rfl
      rw [hg]
      exact lswap_yes ha h hF hl old id hE n hn hx
    · rw [if_neg hE]
      exact lswap_err ha h hF hl old id hp hE
end
section
variable {w wx : World} {obs : List (Ob w.heap.size)} {i j bL bA : Nat} {es : List EntM} {ks : List Key}
end
end Go.Proofs.YtkakncngkmoegaaGreat

namespace Go.Proofs.YtkakncngkmoegaaGreat
open Go.RowKit Go.Sort

def zeroEV : Value := .agg #[.int .i64 0, .int .i64 0, .string ⟨#[]⟩, .string ⟨#[]⟩, .string ⟨#[]⟩, .int .i64 0, .bool false, .int .i32 0, .bool false, .slice none 0 0]
def zeroEO : Obj := .cells #[.int .i64 0, .int .i64 0, .string ⟨#[]⟩, .string ⟨#[]⟩, .string ⟨#[]⟩, .int .i64 0, .bool false, .int .i32 0, .bool false, .slice none 0 0] 54
def entV (x : EntM) (v : Value) : Value := .agg (Value.int .i64 x.node :: x.tok.cells v).toArray

section
variable {w : World} {base bL bA bW : Nat} {F : Nat → Prop} {v : Value} {ps : List Nat} {es : List EntM}
set_option maxHeartbeats 2000000 in
theorem lat_yes (h : LiM w base bL bA bW F v ps es) (i : Nat) {x : EntM} (hi : es[i]? = some x) : Calls Tryz.prog 17 #[.pointer (some ⟨bL, 0, none⟩), .int .i64 i] w fun e w' => ∃ ao ac, e = .returned (.tuple #[entV x (.slice ao x.tok.attrs.length ac), .int .i64 0]) ∧ AtrS w' w.heap.size ao x.tok.attrs ∧ Below w.heap.size w w' := by
  have hb0 : Below w.heap.size w (w.alloc zeroEO) := below_newAc _ _
  have HM := hide (lmade_any (h.below hb0))
  have HL := hide (llen_any (h.below hb0))
  have HA := hide (rat_any (h.below hb0).row hi)
  have c1 := (h.below hb0).cells.2
  have hlt : (i : Int) < (es.length : Int) := by have := (List.getElem?_eq_some_iff.1 hi).1; omega
  have hi0 : (0 : Int) ≤ (i : Int) := by omega
  obtain ⟨x0, x1, x2, t0, t1, t2, t3, t4, t5, t6, t7, ta⟩ := x
  have HOT := hide (fun (W : World) (a : Option Addr) (cap : Nat) hl hn => ownTok_any W ⟨t0, t1, t2, t3, t4, t5, t6, t7, ta⟩ a cap hl hn)
  simp only [TokM.cells, zeroEO] at *
  clear h hb0 hi
  go_enter Tryz.func17, Tryz.ntmps17
  go_wp2_with (first | (go_at_call 53; refine (unhide HM).mono ?_; rintro e w1 ⟨rfl, rfl⟩) | (go_at_call 16; refine (unhide HL).mono ?_; rintro e w1 ⟨rfl, rfl⟩) | (go_at_call 55; refine (unhide HA).mono ?_; rintro e w2 ⟨b, rfl, hpb, hen, rfl⟩; have hfew := hen.few; obtain ⟨ao, ac, so, sc, hbl, hA1, hA2⟩ := hen.lies; have HFW := hide hfew; have HAI := hide hA1.ins; have HBL := hide hbl; clear hpb hen hfew hA1 hA2 hbl; unfold ptrV))
  have HCC : Hid (∀ W', Below (w.alloc (.cells #[.int .i64 0, .int .i64 0, .string ⟨#[]⟩, .string ⟨#[]⟩, .string ⟨#[]⟩, .int .i64 0, .bool false, .int .i32 0, .bool false, .slice none 0 0] 54)).heap.size (w.alloc (.cells #[.int .i64 0, .int .i64 0, .string ⟨#[]⟩, .string ⟨#[]⟩, .string ⟨#[]⟩, .int .i64 0, .bool false, .int .i32 0, .bool false, .slice none 0 0] 54)) W' → (W'.cell? ⟨b, 0, none⟩ = some (.int .i64 x0) ∧ W'.cell? ⟨b, 3, none⟩ = some (.int .i64 t0) ∧ W'.cell? ⟨b, 4, none⟩ = some (.string t1) ∧ W'.cell? ⟨b, 5, none⟩ = some (.string t2) ∧ W'.cell? ⟨b, 6, none⟩ = some (.string t3) ∧ W'.cell? ⟨b, 7, none⟩ = some (.int .i64 t4) ∧ W'.cell? ⟨b, 8, none⟩ = some (.bool t5) ∧ W'.cell? ⟨b, 9, none⟩ = some (.int .i32 t6) ∧ W'.cell? ⟨b, 10, none⟩ = some (.bool t7) ∧ W'.cell? ⟨b, 11, none⟩ = some (.slice ao ta.length ac)) ∧ (W'.cell? ⟨w.heap.size, 0, none⟩ = some (.int .i64 0) ∧ W'.cell? ⟨w.heap.size, 1, none⟩ = some (.int .i64 0) ∧ W'.cell? ⟨w.heap.size, 2, none⟩ = some (.string ⟨#[]⟩) ∧ W'.cell? ⟨w.heap.size, 3, none⟩ = some (.string ⟨#[]⟩) ∧ W'.cell? ⟨w.heap.size, 4, none⟩ = some (.string ⟨#[]⟩) ∧ W'.cell? ⟨w.heap.size, 5, none⟩ = some (.int .i64 0) ∧ W'.cell? ⟨w.heap.size, 6, none⟩ = some (.bool false) ∧ W'.cell? ⟨w.heap.size, 7, none⟩ = some (.int .i32 0) ∧ W'.cell? ⟨w.heap.size, 8, none⟩ = some (.bool false) ∧ W'.cell? ⟨w.heap.size, 9, none⟩ = some (.slice none 0 0) ∧ W'.frozen? ⟨w.heap.size, 0, none⟩ = false ∧ W'.frozen? ⟨w.heap.size, 1, none⟩ = false ∧ W'.frozen? ⟨w.heap.size, 2, none⟩ = false ∧ W'.frozen? ⟨w.heap.size, 3, none⟩ = false ∧ W'.frozen? ⟨w.heap.size, 4, none⟩ = false ∧ W'.frozen? ⟨w.heap.size, 5, none⟩ = false ∧ W'.frozen? ⟨w.heap.size, 6, none⟩ = false ∧ W'.frozen? ⟨w.heap.size, 7, none⟩ = false ∧ W'.frozen? ⟨w.heap.size, 8, none⟩ = false ∧ W'.frozen? ⟨w.heap.size, 9, none⟩ = false) ∧ W'.heap[w.heap.size]? = some (.cells #[.int .i64 0, .int .i64 0, .string ⟨#[]⟩, .string ⟨#[]⟩, .string ⟨#[]⟩, .int .i64 0, .bool false, .int .i32 0, .bool false, .slice none 0 0] 54 (0, 0)) ∧ Below w.heap.size w W') := hide (fun W' hb => by
    have hbl := (hb.block b (lt_of_block (unhide HBL))).trans (unhide HBL)
    have hz := (hb.block w.heap.size (by simp)).trans (heap_alloc_new w (.cells #[.int .i64 0, .int .i64 0, .string ⟨#[]⟩, .string ⟨#[]⟩, .string ⟨#[]⟩, .int .i64 0, .bool false, .int .i32 0, .bool false, .slice none 0 0] 54))
    exact ⟨⟨cell_of_row _ _ 0 _ _ _ hbl, cell_of_row _ _ 3 _ _ _ hbl, cell_of_row _ _ 4 _ _ _ hbl, cell_of_row _ _ 5 _ _ _ hbl, cell_of_row _ _ 6 _ _ _ hbl, cell_of_row _ _ 7 _ _ _ hbl, cell_of_row _ _ 8 _ _ _ hbl, cell_of_row _ _ 9 _ _ _ hbl, cell_of_row _ _ 10 _ _ _ hbl, cell_of_row _ _ 11 _ _ _ hbl⟩, ⟨cell_of_row _ _ 0 _ _ _ hz, cell_of_row _ _ 1 _ _ _ hz, cell_of_row _ _ 2 _ _ _ hz, cell_of_row _ _ 3 _ _ _ hz, cell_of_row _ _ 4 _ _ _ hz, cell_of_row _ _ 5 _ _ _ hz, cell_of_row _ _ 6 _ _ _ hz, cell_of_row _ _ 7 _ _ _ hz, cell_of_row _ _ 8 _ _ _ hz, cell_of_row _ _ 9 _ _ _ hz, free_row hz 0, free_row hz 1, free_row hz 2, free_row hz 3, free_row hz 4, free_row hz 5, free_row hz 6, free_row hz 7, free_row hz 8, free_row hz 9⟩, hz, (below_newAc w _).trans (hb.mono (by simp))⟩)
  obtain ⟨a0, a1, a2, a3, a4, a5, a6, a7, a8, a9⟩ := ((unhide HCC) _ (Below.refl _ _)).1
  go_region_with (go_at_call 56; refine ((unhide HOT) _ ao ac (by first | exact unhide HAI | exact (unhide HAI).below (Below.refl _ _).drew) (unhide HFW)).mono ?_; rintro e w3 ⟨ao3, ac3, rfl, ha3, hb3⟩; have HA3 := hide ha3; have HB3 := hide (show Below (w.alloc (.cells #[.int .i64 0, .int .i64 0, .string ⟨#[]⟩, .string ⟨#[]⟩, .string ⟨#[]⟩, .int .i64 0, .bool false, .int .i32 0, .bool false, .slice none 0 0] 54)).heap.size (w.alloc (.cells #[.int .i64 0, .int .i64 0, .string ⟨#[]⟩, .string ⟨#[]⟩, .string ⟨#[]⟩, .int .i64 0, .bool false, .int .i32 0, .bool false, .slice none 0 0] 54)) w3 from ⟨hb3.os, hb3.tape, hb3.output, hb3.size, hb3.block⟩); obtain ⟨⟨e0, e1, e2, e3, e4, e5, e6, e7, e8, e9⟩, ⟨k0, k1, k2, k3, k4, k5, k6, k7, k8, k9, f0, f1, f2, f3, f4, f5, f6, f7, f8, f9⟩, _, _⟩ := (unhide HCC) w3 (unhide HB3); clear ha3 hb3)
  all_goals go_wp2
  all_goals have hz := ((unhide HCC) w3 (unhide HB3)).2.2.1
  all_goals have hbw := ((unhide HCC) w3 (unhide HB3)).2.2.2
  all_goals have hfin := run_whole w.heap.size [.int .i64 x0, .int .i64 t0, .string t1, .string t2, .string t3, .int .i64 t4, .bool t5, .int .i32 t6, .bool t7, .slice ao3 ta.length ac3] w3 _ _ hz rfl
  all_goals have hmod : Mod (fun k => k = w.heap.size) w3 (w3.setCells w.heap.size 0 [.int .i64 x0, .int .i64 t0, .string t1, .string t2, .string t3, .int .i64 t4, .bool t5, .int .i32 t6, .bool t7, .slice ao3 ta.length ac3]) := run_mod (F := fun k => k = w.heap.size) w.heap.size rfl _ _ _
  all_goals have hatr := (unhide HA3).mod hmod (fun b off e => by have := ((unhide HA3).lt e).1; simp at this; omega)
  all_goals exact bodyPost_ret (ret_two Tryz.results17 _ _ w.heap.size _ _ rfl rfl (run_loadVar_row _ _ _ _ _ _ _ hfin Tryz.underlying54 rfl (by kernel_rfl))) rfl ⟨ao3, ac3, rfl, hatr.lower (by simp), hbw.trans (hmod.below hbw.size (fun k e => by omega))⟩
end
section
variable {w wx : World} {obs : List (Ob w.heap.size)} {j bL bA : Nat} {es : List EntM}
theorem env_lat (h : Env w wx obs) (hj : obs[j]? = some (liOb _ bL bA es)) (i : Nat) {x : EntM} (hi : es[i]? = some x) :
    Calls Tryz.prog 17 #[.pointer (some ⟨bL, 0, none⟩), .int .i64 i] wx fun e w' => ∃ ao ac, e = .returned (.tuple #[entV x (.slice ao x.tok.attrs.length ac), .int .i64 0]) ∧ AtrS w' wx.heap.size ao x.tok.attrs ∧ Env w w' obs := by
  obtain ⟨F, ⟨bW, v, ps, R, hm, hF⟩, h3⟩ := h.li hj
  exact (lat_yes hm i hi).mono fun _ _ ⟨a, b, c, d, e⟩ => ⟨a, b, c, d, h.more e⟩
end
end Go.Proofs.YtkakncngkmoegaaGreat

namespace Go.Proofs.YtkakncngkmoegaaGreat
open Go.RowKit Go.Sort

/-- An entry: its element, its token, where the token's attributes lie. -/
structure EntQ where
  node : Int
  tok : TokM
  a : Option Addr
  c : Nat
def EntQ.av (x : EntQ) : Value := .slice x.a x.tok.attrs.length x.c
def EntQ.cells (x : EntQ) : List Value := .int .i64 x.node :: x.tok.cells x.av
theorem entQ_len (x : EntQ) : x.cells.length = 10 := rfl
def qRow (l : List EntQ) : List Value := l.flatMap EntQ.cells

structure QlM (w : World) (base bQ bR : Nat) (v : Value) (qs : List EntQ) : Prop where
  box : w.heap[bQ]? = some (.cells #[.pointer (some ⟨bR, 0, none⟩), v] 104 (0, 0))
  own : w.ownsRow base 54 10 v qs.length (qRow qs)
  attrs : ∀ (i : Nat) x, qs[i]? = some x → AttrsIn w x.a x.tok.attrs ∧ ∀ b off, x.a = some ⟨b, off, none⟩ → b < base
  lo : base ≤ bQ
def footQ (bQ : Nat) (v : Value) (k : Nat) : Prop := k = bQ ∨ v.ownBlock = some k
def QlS (w : World) (base bQ bR : Nat) (qs : List EntQ) (F : Nat → Prop) : Prop := ∃ v, QlM w base bQ bR v qs ∧ ∀ k, F k ↔ footQ bQ v k
def UpdQ (F : Nat → Prop) (w w' : World) (base bQ bR : Nat) (qs : List EntQ) : Prop := ∃ F', QlS w' base bQ bR qs F' ∧ Mod F w w' ∧ ∀ k, F' k → F k ∨ w.heap.size ≤ k

section
variable {w w' w1 : World} {base bQ bR : Nat} {v : Value} {qs : List EntQ} {F G : Nat → Prop}
theorem QlM.lt (h : QlM w base bQ bR v qs) {k : Nat} (hk : footQ bQ v k) : base ≤ k ∧ k < w.heap.size := by
  rcases hk with rfl | hk
  · exact ⟨h.lo, lt_of_block h.box⟩
  · exact h.own.lt k hk
theorem QlM.cells (h : QlM w base bQ bR v qs) : w.cell? ⟨bQ, 0, none⟩ = some (.pointer (some ⟨bR, 0, none⟩)) ∧ w.cell? ⟨bQ, 1, none⟩ = some v ∧ ∀ j, w.frozen? ⟨bQ, j, none⟩ = false := by
  have hb := h.box
  exact ⟨by simp [World.cell?, hb], by simp [World.cell?, hb], fun j => by simp [World.frozen?, hb]⟩
theorem QlM.mod (h : QlM w base bQ bR v qs) (hm : Mod G w w') (hG : ∀ k, footQ bQ v k → ¬ G k) (hlo : ∀ k, G k → base ≤ k) : QlM w' base bQ bR v qs := by
  refine ⟨(hm.block bQ (lt_of_block h.box) (hG bQ (.inl rfl))).trans h.box, ownsRow_kept h.own (fun k hk => hm.block k (h.own.lt k hk).2 (hG k (.inr hk))), fun i x hx => ?_, h.lo⟩
  obtain ⟨h1, h2⟩ := h.attrs i x hx
  refine ⟨h1.mod (fun b off e => ?_), h2⟩
  have hb := h2 b off e
  exact hm.block b (Nat.lt_of_lt_of_le hb (Nat.le_trans h.lo (Nat.le_of_lt (lt_of_block h.box)))) (fun e => by have := hlo b e; omega)
theorem QlM.below (h : QlM w base bQ bR v qs) (hb : Below w.heap.size w w') : QlM w' base bQ bR v qs := h.mod (Mod.of_below (F := fun _ => False) hb) (fun _ _ e => e) (fun _ e => e.elim)
theorem QlM.val (h : QlM w base bQ bR v qs) : (v = .slice none 0 0 ∧ qs = []) ∨ ∃ g cap, v = .slice (some ⟨g, 0, none⟩) qs.length cap := by
  rcases h.own.2 with ⟨e, h0⟩ | ⟨g, cap, _, e, _⟩
  · exact .inl ⟨e, List.eq_nil_of_length_eq_zero h0⟩
  · exact .inr ⟨g, cap, e⟩
theorem QlM.len (h : QlM w base bQ bR v qs) : ∃ a cap, v = .slice a qs.length cap := by
  rcases h.val with ⟨e, rfl⟩ | ⟨g, cap, e⟩
  · exact ⟨none, 0, e⟩
  · exact ⟨_, cap, e⟩
/-- What stands at a place. -/
theorem QlM.at (h : QlM w base bQ bR v qs) {i : Nat} {x : EntQ} (hi : qs[i]? = some x) : ∃ g cap, v = .slice (some ⟨g, 0, none⟩) qs.length cap ∧ ∀ j, j < 10 → w.cell? ⟨g, i * 10 + j, none⟩ = x.cells[j]? := by
  have hlt := (List.getElem?_eq_some_iff.1 hi).1
  rcases h.val with ⟨_, h0⟩ | ⟨g, cap, e⟩
  · subst h0; simp at hi
  · subst e
    refine ⟨g, cap, rfl, fun j hj => ?_⟩
    rw [h.own.cellAt (i * 10 + j) (by omega), qRow, flat_get EntQ.cells 10 entQ_len qs i j hj, hi]
    rfl
theorem QlS.lt (h : QlS w base bQ bR qs F) {k : Nat} (hk : F k) : base ≤ k ∧ k < w.heap.size := by
  obtain ⟨v, h, hF⟩ := h
  exact h.lt ((hF k).1 hk)
theorem QlS.mod (h : QlS w base bQ bR qs F) (hm : Mod G w w') (hG : ∀ k, F k → ¬ G k) (hlo : ∀ k, G k → base ≤ k) : QlS w' base bQ bR qs F := by
  obtain ⟨v, h, hF⟩ := h
  exact ⟨v, h.mod hm (fun k hk => hG k ((hF k).2 hk)) hlo, hF⟩

theorem qnew_any (hb : base ≤ w.heap.size) : Calls Tryz.prog 27 #[.pointer (some ⟨bR, 0, none⟩)] w fun e w' => ∃ bQ F, e = .returned (.pointer (some ⟨bQ, 0, none⟩)) ∧ QlS w' base bQ bR [] F ∧ Below w.heap.size w w' ∧ ∀ k, F k → w.heap.size ≤ k := by
  have HB := hide hb
  clear hb
  go_enter Tryz.func27, Tryz.ntmps27
  go_wp2
  go_ret
  refine ⟨_, _, rfl, ⟨.slice none 0 0, ⟨heap_alloc_new w _, World.ownsRow_nil _ _ _ _, fun i x e => by simp at e, unhide HB⟩, fun k => Iff.rfl⟩, below_newAc _ _, ?_⟩
  rintro k (rfl | hk)
  · omega
  · simp [Value.ownBlock] at hk

/-- The last place of a number. -/
def backQ (ns : List Int) (id : Int) : Nat → Int
  | 0 => -1
  | n + 1 => if ns[n]? = some id then (n : Int) else backQ ns id n
def findQ (qs : List EntQ) (id : Int) : Int := if id = -1 then -1 else backQ (qs.map (·.node)) id qs.length
set_option maxRecDepth 100000 in
set_option maxHeartbeats 1000000 in
theorem qfind_any (h : QlM w base bQ bR v qs) (hl : qs.length < 1000000000000) (id : Int) : Calls Tryz.prog 42 #[.pointer (some ⟨bQ, 0, none⟩), .int .i64 id] w fun e w' => e = .returned (.int .i64 (findQ qs id)) ∧ w = w' := by
  obtain ⟨c0, c1, _⟩ := h.cells
  obtain ⟨va, vc, rfl⟩ := h.len
  have HAT : Hid (∀ (i : Nat) x, qs[i]? = some x → ∃ g, va = some ⟨g, 0, none⟩ ∧ w.cell? ⟨g, i * 10, none⟩ = some (.int .i64 x.node)) := hide (fun i x hi => by
    obtain ⟨g, cap, e, hc⟩ := h.at hi
    cases e
    exact ⟨g, rfl, hc 0 (by omega)⟩)
  have hz : (qs.length : Int) < 1000000000000 := by omega
  obtain ⟨r, hr⟩ : ∃ r, findQ qs id = r := ⟨_, rfl⟩
  rw [hr]
  have HR := hide hr
  clear h hl hr
  go_enter Tryz.func42, Tryz.ntmps42
  go_wp2
  go_loopg [5] qs.length (fun g s5 wr => s5 = .int .i64 ((g : Int) - 1) ∧ g ≤ qs.length ∧ wr = w ∧ (id ≠ -1 → backQ (qs.map (·.node)) id qs.length = backQ (qs.map (·.node)) id g))
  case atStart => exact ⟨rfl, Nat.le_refl _, rfl, fun _ => rfl⟩
  case round =>
    obtain ⟨rfl, hgl, rfl, hno⟩ := hrel
    have HNO := hide hno
    clear hno
    cases gk with
    | zero =>
      go_wp2
      go_ret
      refine ⟨?_, rfl⟩
      rw [← unhide HR, findQ]
      by_cases e : id = -1
      · rw [if_pos e]; rfl
      · rw [if_neg e, (unhide HNO) e]; rfl
    | succ n =>
      obtain ⟨y, hy⟩ : ∃ y, qs[n]? = some y := ⟨_, List.getElem?_eq_getElem (by omega)⟩
      obtain ⟨g, rfl, hcell⟩ := (unhide HAT) n y hy
      have e1 : (((n + 1 : Nat) : Int) - 1) = (n : Int) := by omega
      rw [e1]
      have HY : Hid ((qs.map (·.node))[n]? = some y.node) := hide (by rw [List.getElem?_map, hy]; rfl)
      have hnz : (n : Int) < (qs.length : Int) := by omega
      have hn0 : (0 : Int) ≤ (n : Int) := by omega
      have HGL := hide hgl
      clear hy e1 hgl
      cases hm : (id == -1) with
      | true =>
        have HM := hide hm
        have hm2 : (id != -1) = false := by simpa using hm
        go_wp2
        go_ret
        have e := eq_of_beq (unhide HM)
        rw [← unhide HR, findQ, if_pos e]
        exact ⟨rfl, rfl⟩
      | false =>
        have HM : Hid (¬ id = -1) := hide (by simpa using hm)
        have hm2 : (id != -1) = true := by simpa using hm
        cases hq : (y.node == id) with
        | true =>
          have HQ := hide hq
          go_wp2
          go_ret
          have e := eq_of_beq (unhide HQ)
          rw [← unhide HR, findQ, if_neg (unhide HM), (unhide HNO) (unhide HM), backQ, unhide HY, if_pos (by rw [e])]
          exact ⟨rfl, rfl⟩
        | false =>
          have HQ := hide hq
          go_wp2
          go_roundg n
          case measure => omega
          case rel =>
            refine ⟨by go_num, by have := unhide HGL; omega, rfl, fun e => ?_⟩
            rw [(unhide HNO) e, backQ, unhide HY, if_neg (fun h => by have := unhide HQ; simp at h; simp [h] at this)]
end
end Go.Proofs.YtkakncngkmoegaaGreat
