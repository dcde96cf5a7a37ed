/-
  Package active: an entry pushed.
-/
import Derived.Test.YtabdgmcajndgbaaSBat
namespace Go.Proofs.Ytabdgmcajndgbaa
open Go.RowKit Go.Sort

def newE (ks : List Key) (es : List EntM) (id : Int) (t : TokM) : EntM := ⟨id, (enterK ks es id).sp, (enterK ks es id).nm, t⟩
def pushE (ks : List Key) (es : List EntM) (id : Int) (t : TokM) : List EntM := if enterE ks es id = 0 then delE es (surE (newE ks es id t) es) ++ [newE ks es id t] else es
theorem EntIn.here {w : World} {F : Nat → Prop} {b : Nat} {x : EntM} (h : EntIn w F b x) : EntIn w (fun k => F k ∧ k < w.heap.size) b x := by
  have hat : ∀ {a : Option Addr} {l : List AttrM}, AtrF w F a l → AtrF w (fun k => F k ∧ k < w.heap.size) a l := fun h => ⟨h.ins, fun b off e => by
    obtain ⟨h1, cur, h2⟩ := h.own b off e
    exact ⟨⟨h1, lt_of_block h2⟩, cur, h2⟩, h.nil⟩
  have hb := h.lt
  obtain ⟨ao, ac, so, sc, h1, h2, h3⟩ := h.lies
  exact ⟨⟨h.fb, hb⟩, h.few, ao, ac, so, sc, h1, hat h2, hat h3⟩
theorem delE_len (es : List EntM) (i : Int) : (delE es i).length ≤ es.length := by
  unfold delE
  split
  · rw [List.length_append, List.length_take, List.length_drop]; omega
  · exact Nat.le_refl _

section
variable {w : World} {base baseA bL bA bW : Nat} {ks : List Key} {F FA FL : Nat → Prop} {v : Value} {ps : List Nat} {es : List EntM}
theorem RowM.upd (h : RowM w base bW F v ps es) {w' : World} (hb : Below w.heap.size w w') : UpdW F w' w' base bW es := ⟨F, ⟨v, ps, h.below hb⟩, ⟨rfl, rfl, rfl, Nat.le_refl _, fun _ _ _ => rfl⟩, fun _ e => .inl e⟩
theorem UpdW.drew {w w' : World} (h : UpdW F w w' base bW es) : UpdW F w w'.drew base bW es := by
  obtain ⟨F', ⟨v, ps, h1⟩, h2, h3⟩ := h
  exact ⟨F', ⟨v, ps, h1.mod (G := fun _ => False) (mod_drew _) (fun _ _ e => e)⟩, h2.trans (mod_drew _), h3⟩
/-- The last steps of a push: a row that lost an entry or not, the new entry put in last. -/
theorem push_end (h : LiM w base bL bA bW F v ps es) (hF : ∀ k, FL k ↔ (k = bL ∨ F k)) {W W' : World} {bx : Nat} {x : EntM} {es' : List EntM} (hb : Below w.heap.size w W) (hx : EntIn W (fun k => w.heap.size ≤ k) bx x) (hu : UpdW F W W' base bW es') (hl : es'.length < 1000000000000) :
    (Calls Try.prog 35 #[.pointer (some ⟨bW, 0, none⟩)] W' fun e w' => e = .returned (.int .i64 es'.length) ∧ W' = w') ∧
    Calls Try.prog 52 #[.pointer (some ⟨bW, 0, none⟩), .int .i64 es'.length, .pointer (some ⟨bx, 0, none⟩)] W' fun e w' => e = .returned (.tuple #[]) ∧ UpdL FL w w' base bL bA (es' ++ [x]) ∧ w'.cell? ⟨bL, 1, none⟩ = some (.pointer (some ⟨bW, 0, none⟩)) := by
  obtain ⟨F', ⟨v', ps', h1⟩, h2, h3⟩ := hu
  refine ⟨rsize_any h1, ?_⟩
  have hlo := h.lo
  have hlt := lt_of_block h.box
  have hbx := hx.lt
  have hx2 : EntIn W' (fun k => w.heap.size ≤ k) bx x := hx.here.mod h2 (fun k hk e => by have := h.row.lt _ e; omega) |>.wide (fun k hk => hk.1)
  refine (put_gen h1 hx2.here (fun k hk => ⟨by omega, hk.2⟩) (fun e => ?_) es'.length (Nat.le_refl _) hl).mono ?_
  · rcases h3 _ e with e | e
    · have := h.row.lt _ e; have := hx.fb; omega
    · omega
  · rintro e w' ⟨rfl, hu⟩
    rw [List.take_length, List.drop_length] at hu
    have hu2 : UpdW F w w' base bW (es' ++ [x]) := UpdW.of ((Mod.of_below (F := F) hb).trans h2) (fun k hk => by
      rcases hk with e | e
      · rcases h3 k e with e | e
        · exact .inl e
        · exact .inr (Nat.le_trans hb.size e)
      · exact .inr e.1) hu
    refine ⟨rfl, h.upd hF hu2, ?_⟩
    obtain ⟨_, _, h4, _⟩ := hu2
    exact cell_of_row _ _ 1 _ _ _ ((h4.block bL hlt h.nl).trans h.box)

set_option maxHeartbeats 2000000 in
theorem lpush_any (ha : ArK w baseA bA ks FA) (h : LiM w base bL bA bW F v ps es) (hF : ∀ k, FL k ↔ (k = bL ∨ F k)) (hl : es.length < 1000000000000) (id : Int) (t : TokM) (a : Option Addr) (cap : Nat) (hi : AttrsIn w a t.attrs) (hn : t.attrs.length ≤ 2513169434916) :
    Calls Try.prog 20 #[.pointer (some ⟨bL, 0, none⟩), .int .i64 id, .agg (t.cells (.slice a t.attrs.length cap)).toArray] w fun e w' => e = .returned (.int .i64 (enterE ks es id)) ∧ UpdL FL w w' base bL bA (pushE ks es id t) := by
  have HME := hide (fun (W : World) (hb : Below w.heap.size w W) => mayEnter_any (ha.below hb) (h.below hb) hl id)
  have HNE := hide (fun (W : World) (hb : Below w.heap.size w W) => newEntry_any W id (enterK ks es id).sp (enterK ks es id).nm t a cap (hi.below hb) hn)
  have HSU : Hid (∀ (W : World) (bx : Nat), Below w.heap.size w W → EntIn W (fun k => w.heap.size ≤ k) bx (newE ks es id t) → Calls Try.prog 50 #[.pointer (some ⟨bW, 0, none⟩), .pointer (some ⟨bx, 0, none⟩)] W fun e w' => e = .returned (.int .i64 (surE (newE ks es id t) es)) ∧ Below W.heap.size W w') := hide (fun W bx hb hx => by
    refine (surplus_any (h.below hb).row hx.here (fun k hk => hk.2) hl).mono ?_
    rintro e w' ⟨rfl, hb'⟩
    exact ⟨by rw [surP_E h.row.len], hb'⟩)
  have HRE : Hid (∀ (W : World), Below w.heap.size w W → 0 ≤ surE (newE ks es id t) es → Calls Try.prog 51 #[.pointer (some ⟨bW, 0, none⟩), .int .i64 (surE (newE ks es id t) es)] W fun e w' => e = .returned (.tuple #[]) ∧ UpdW F W w' base bW (delE es (surE (newE ks es id t) es))) := hide (fun W hb h0 => by
    have h1 := surE_lt (newE ks es id t) es
    rw [delE, if_pos h0]
    generalize surE (newE ks es id t) es = s at *
    obtain ⟨n, rfl⟩ : ∃ n : Nat, s = n := ⟨s.toNat, by omega⟩
    exact rremove_any (h.below hb).row n (by omega) hl)
  have HPE := hide (fun (W W' : World) (bx : Nat) (hb : Below w.heap.size w W) hx hu => push_end (W' := W') (bx := bx) (x := newE ks es id t) h hF hb hx hu (Nat.lt_of_le_of_lt (delE_len es (surE (newE ks es id t) es)) hl))
  have HRU := hide (fun (W : World) (hb : Below w.heap.size w W) (h0 : ¬ 0 ≤ surE (newE ks es id t) es) => show UpdW F W W base bW (delE es (surE (newE ks es id t) es)) from by rw [delE, if_neg h0]; exact h.row.upd hb)
  have HC : Hid (∀ W, Below w.heap.size w W → W.cell? ⟨bL, 1, none⟩ = some (.pointer (some ⟨bW, 0, none⟩))) := hide (fun W hb => ((h.below hb).cells).2)
  have HC2 : Hid (∀ W W', Below w.heap.size w W → UpdW F W W' base bW (delE es (surE (newE ks es id t) es)) → W'.cell? ⟨bL, 1, none⟩ = some (.pointer (some ⟨bW, 0, none⟩))) := hide (fun W W' hb hu => by
    obtain ⟨_, _, h2, _⟩ := hu
    exact cell_of_row _ _ 1 _ _ _ ((h2.block bL (lt_of_block (h.below hb).box) h.nl).trans (h.below hb).box))
  have HER := hide (fun (W : World) (hb : Below w.heap.size w W) => UpdL.after hb (LiS.upd (show LiS W base bL bA es FL from ⟨bW, v, ps, F, h.below hb, hF⟩) (Below.refl _ W)))
  clear ha h hF hl hi hn
  unfold pushE
  by_cases hE : enterE ks es id = 0
  · rw [if_pos hE, hE]
    rw [hE] at HME
    unfold newE at *
    generalize enterK ks es id = ek at *
    generalize surE ⟨id, ek.sp, ek.nm, t⟩ es = s at *
    obtain ⟨ksp, knm⟩ := ek
    obtain ⟨t0, t1, t2, t3, t4, t5, t6, t7, ta⟩ := t
    simp only [TokM.cells] at *
    have HT : Hid (∀ w1, Below (w.alloc (.cells #[.int .i64 t0, .string t1, .string t2, .string t3, .int .i64 t4, .bool t5, .int .i32 t6, .bool t7, .slice a ta.length cap] 37)).heap.size (w.alloc (.cells #[.int .i64 t0, .string t1, .string t2, .string t3, .int .i64 t4, .bool t5, .int .i32 t6, .bool t7, .slice a ta.length cap] 37)) w1 → (w1.cell? ⟨w.heap.size, 0, none⟩ = some (.int .i64 t0) ∧ w1.cell? ⟨w.heap.size, 1, none⟩ = some (.string t1) ∧ w1.cell? ⟨w.heap.size, 2, none⟩ = some (.string t2) ∧ w1.cell? ⟨w.heap.size, 3, none⟩ = some (.string t3) ∧ w1.cell? ⟨w.heap.size, 4, none⟩ = some (.int .i64 t4) ∧ w1.cell? ⟨w.heap.size, 5, none⟩ = some (.bool t5) ∧ w1.cell? ⟨w.heap.size, 6, none⟩ = some (.int .i32 t6) ∧ w1.cell? ⟨w.heap.size, 7, none⟩ = some (.bool t7) ∧ w1.cell? ⟨w.heap.size, 8, none⟩ = some (.slice a ta.length cap)) ∧ Below w.heap.size w w1 ∧ ¬ w.heap.size = w1.heap.size ∧ ¬ w1.heap.size = w.heap.size) := hide (fun w1 hb => by
      have hbl := (hb.block _ (by simp)).trans (heap_alloc_new w (.cells #[.int .i64 t0, .string t1, .string t2, .string t3, .int .i64 t4, .bool t5, .int .i32 t6, .bool t7, .slice a ta.length cap] 37))
      obtain ⟨d0, d1, d2, d3, d4, d5, d6, d7, d8, _⟩ := nine hbl
      have := lt_of_block hbl
      exact ⟨⟨d0, d1, d2, d3, d4, d5, d6, d7, d8⟩, (below_new w _).trans (hb.mono (by simp)), by omega, by omega⟩)
    by_cases hs : 0 ≤ s
    · go_enter Try.func20, Try.ntmps20
      go_wp2_with (first | (go_at_call 48; refine ((unhide HME) _ (by exact below_new _ _)).mono ?_; rintro e w1 ⟨rfl, hb1⟩; obtain ⟨_, hbw, kne, kne2⟩ := (unhide HT) w1 hb1; obtain ⟨⟨d0, d1, d2, d3, d4, d5, d6, d7, d8⟩, _⟩ := (unhide HT) (w1.alloc (.cells #[.int .i64 ksp, .string knm] 81)) (hb1.alloc hb1.size _); have HB1 := hide hbw; clear hb1 hbw; unfold KinM.agg) | (go_at_call 49; refine ((unhide HNE) _ (by exact (unhide HB1).alloc (unhide HB1).size _)).mono ?_; rintro e w2 ⟨bx, rfl, hx, hb2⟩; have hB1 := (unhide HB1).alloc (unhide HB1).size (.cells #[.int .i64 ksp, .string knm] 81); have HB2 := hide (hB1.trans (hb2.mono hB1.size)); have HX := hide (hx.wide (G := fun k => w.heap.size ≤ k) (fun k hk => Nat.le_trans hB1.size hk.1)); have c2 := (unhide HC) w2 (unhide HB2); clear hx hb2 hB1) | (go_at_call 50; refine ((unhide HSU) _ bx (unhide HB2) (unhide HX)).mono ?_; rintro e w3 ⟨rfl, hb3⟩; have HB3 := hide ((unhide HB2).trans (hb3.mono (unhide HB2).size)); have HX3 := hide ((unhide HX).mod (Mod.of_below (F := fun _ => False) hb3) (fun _ _ e => e)); have c3 := (unhide HC) w3 (unhide HB3); clear hb3) | (go_at_call 51; refine ((unhide HRE) _ (unhide HB3) hs).mono ?_; rintro e w4 ⟨rfl, hu⟩; have c4 := (unhide HC2) w3 w4 (unhide HB3) hu; have HU := hide hu; clear hu))
      go_region_held3 (fun W' => W'.cell? ⟨bL, 1, none⟩ = some (.pointer (some ⟨bW, 0, none⟩))) (first | exact unhide HC6 | exact c4) (first
        | (go_at_call 35; refine ((unhide HPE) w3 _ bx (unhide HB3) (unhide HX3) (by first | exact unhide HU | exact (unhide HU).drew)).1.mono ?_; rintro e w5 ⟨rfl, rfl⟩) | (go_at_call 52; refine ((unhide HPE) w3 _ bx (unhide HB3) (unhide HX3) (by first | exact unhide HU | exact (unhide HU).drew)).2.mono ?_; rintro e w6 ⟨rfl, hu, hc6⟩; have HUL := hide hu; have HC6 := hide hc6; clear hu hc6))
      all_goals go_wp2
      all_goals go_ret
      all_goals exact ⟨rfl, unhide HUL⟩
    · go_enter Try.func20, Try.ntmps20
      go_wp2_with (first | (go_at_call 48; refine ((unhide HME) _ (by exact below_new _ _)).mono ?_; rintro e w1 ⟨rfl, hb1⟩; obtain ⟨_, hbw, kne, kne2⟩ := (unhide HT) w1 hb1; obtain ⟨⟨d0, d1, d2, d3, d4, d5, d6, d7, d8⟩, _⟩ := (unhide HT) (w1.alloc (.cells #[.int .i64 ksp, .string knm] 81)) (hb1.alloc hb1.size _); have HB1 := hide hbw; clear hb1 hbw; unfold KinM.agg) | (go_at_call 49; refine ((unhide HNE) _ (by exact (unhide HB1).alloc (unhide HB1).size _)).mono ?_; rintro e w2 ⟨bx, rfl, hx, hb2⟩; have hB1 := (unhide HB1).alloc (unhide HB1).size (.cells #[.int .i64 ksp, .string knm] 81); have HB2 := hide (hB1.trans (hb2.mono hB1.size)); have HX := hide (hx.wide (G := fun k => w.heap.size ≤ k) (fun k hk => Nat.le_trans hB1.size hk.1)); have c2 := (unhide HC) w2 (unhide HB2); clear hx hb2 hB1) | (go_at_call 50; refine ((unhide HSU) _ bx (unhide HB2) (unhide HX)).mono ?_; rintro e w3 ⟨rfl, hb3⟩; have HB3 := hide ((unhide HB2).trans (hb3.mono (unhide HB2).size)); have HX3 := hide ((unhide HX).mod (Mod.of_below (F := fun _ => False) hb3) (fun _ _ e => e)); have c3 := (unhide HC) w3 (unhide HB3); clear hb3))
      go_region_held3 (fun W' => W'.cell? ⟨bL, 1, none⟩ = some (.pointer (some ⟨bW, 0, none⟩))) (first | exact unhide HC6 | exact c3) (first
        | (go_at_call 35; refine ((unhide HPE) w3 _ bx (unhide HB3) (unhide HX3) (by first | exact (unhide HRU) _ (unhide HB3) hs | exact ((unhide HRU) _ (unhide HB3) hs).drew)).1.mono ?_; rintro e w5 ⟨rfl, rfl⟩) | (go_at_call 52; refine ((unhide HPE) w3 _ bx (unhide HB3) (unhide HX3) (by first | exact (unhide HRU) _ (unhide HB3) hs | exact ((unhide HRU) _ (unhide HB3) hs).drew)).2.mono ?_; rintro e w6 ⟨rfl, hu, hc6⟩; have HUL := hide hu; have HC6 := hide hc6; clear hu hc6))
      all_goals go_wp2
      all_goals go_ret
      all_goals exact ⟨rfl, unhide HUL⟩
  · rw [if_neg hE]
    have hE' : (enterE ks es id != 0) = true := by simpa using hE
    generalize enterE ks es id = en at *
    generalize (enterK ks es id) = ek at *
    obtain ⟨t0, t1, t2, t3, t4, t5, t6, t7, ta⟩ := t
    simp only [TokM.cells] at *
    have HT : Hid (∀ w1, Below (w.alloc (.cells #[.int .i64 t0, .string t1, .string t2, .string t3, .int .i64 t4, .bool t5, .int .i32 t6, .bool t7, .slice a ta.length cap] 37)).heap.size (w.alloc (.cells #[.int .i64 t0, .string t1, .string t2, .string t3, .int .i64 t4, .bool t5, .int .i32 t6, .bool t7, .slice a ta.length cap] 37)) w1 → (w1.cell? ⟨w.heap.size, 0, none⟩ = some (.int .i64 t0) ∧ w1.cell? ⟨w.heap.size, 1, none⟩ = some (.string t1) ∧ w1.cell? ⟨w.heap.size, 2, none⟩ = some (.string t2) ∧ w1.cell? ⟨w.heap.size, 3, none⟩ = some (.string t3) ∧ w1.cell? ⟨w.heap.size, 4, none⟩ = some (.int .i64 t4) ∧ w1.cell? ⟨w.heap.size, 5, none⟩ = some (.bool t5) ∧ w1.cell? ⟨w.heap.size, 6, none⟩ = some (.int .i32 t6) ∧ w1.cell? ⟨w.heap.size, 7, none⟩ = some (.bool t7) ∧ w1.cell? ⟨w.heap.size, 8, none⟩ = some (.slice a ta.length cap)) ∧ Below w.heap.size w w1 ∧ ¬ w.heap.size = w1.heap.size ∧ ¬ w1.heap.size = w.heap.size) := hide (fun w1 hb => by
      have hbl := (hb.block _ (by simp)).trans (heap_alloc_new w (.cells #[.int .i64 t0, .string t1, .string t2, .string t3, .int .i64 t4, .bool t5, .int .i32 t6, .bool t7, .slice a ta.length cap] 37))
      obtain ⟨d0, d1, d2, d3, d4, d5, d6, d7, d8, _⟩ := nine hbl
      have := lt_of_block hbl
      exact ⟨⟨d0, d1, d2, d3, d4, d5, d6, d7, d8⟩, (below_new w _).trans (hb.mono (by simp)), by omega, by omega⟩)
    go_enter Try.func20, Try.ntmps20
    obtain ⟨ksp, knm⟩ := ek
    go_wp2_with (first | (go_at_call 48; refine ((unhide HME) _ (by exact below_new _ _)).mono ?_; rintro e w1 ⟨rfl, hb1⟩; obtain ⟨_, hbw, kne, kne2⟩ := (unhide HT) w1 hb1; obtain ⟨⟨d0, d1, d2, d3, d4, d5, d6, d7, d8⟩, _⟩ := (unhide HT) (w1.alloc (.cells #[.int .i64 ksp, .string knm] 81)) (hb1.alloc hb1.size _); have HB1 := hide hbw; clear hb1 hbw; unfold KinM.agg))
    go_ret
    exact ⟨rfl, (unhide HER) _ ((unhide HB1).alloc (unhide HB1).size _)⟩
end
end Go.Proofs.Ytabdgmcajndgbaa
