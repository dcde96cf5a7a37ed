/-
  Package active: a list made; a marker; the entries behind the last marker cleared; what stands at a place. Package active: an entry pushed. Lists of active elements beside arenas, stacks and blocks: what a call on a list does to all. Package active: an entry taken out, an entry put in at a place. Package active: an entry put in at a place.
-/
import Derived.Test.YtkakncngkmoegaaGreatSZba
import Derived.Test.YtkakncngkmoegaaGreatTZaq
namespace Go.Proofs.YtkakncngkmoegaaGreat
open Go.RowKit Go.Sort

/-- As the row's own scans, told without places in memory. -/
def scanE (x : EntM) (es : List EntM) : Nat → Int × Int → Int × Int
  | 0, s => s
  | i + 1, s => match es[i]? with
    | some y => if y.node = -1 then s else scanE x es i (if alikeM x y = true then ((i : Int), s.2 + 1) else s)
    | none => s
def lastE (nm : ByteArray) (es : List EntM) : Nat → Int
  | 0 => -1
  | i + 1 => match es[i]? with
    | some y => if y.node = -1 then -1 else if kinB y.sp 0 y.nm nm = true then y.node else lastE nm es i
    | none => -1
theorem scanP_E {es : List EntM} {ps : List Nat} (hl : ps.length = es.length) (x : EntM) : ∀ (n : Nat) (s : Int × Int), n ≤ es.length → (behN es ps n).foldl (fun s y => if alikeM x y.x = true then ((y.i : Int), s.2 + 1) else s) s = scanE x es n s
  | 0, s, _ => rfl
  | i + 1, s, h => by
    obtain ⟨y, hy⟩ : ∃ y, es[i]? = some y := ⟨_, List.getElem?_eq_getElem (by omega)⟩
    obtain ⟨b, hb⟩ : ∃ b, ps[i]? = some b := ⟨_, List.getElem?_eq_getElem (by omega)⟩
    rw [behN_succ hy hb, scanE, hy]
    by_cases e : y.node = -1
    · simp only [e, if_true]; rfl
    · simp only [e, if_false, List.foldl_cons]
      exact scanP_E hl x i _ (by omega)
theorem lastP_E {es : List EntM} {ps : List Nat} (hl : ps.length = es.length) (nm : ByteArray) : ∀ (n : Nat), n ≤ es.length → lastP nm (behN es ps n) = lastE nm es n
  | 0, _ => rfl
  | i + 1, h => by
    obtain ⟨y, hy⟩ : ∃ y, es[i]? = some y := ⟨_, List.getElem?_eq_getElem (by omega)⟩
    obtain ⟨b, hb⟩ : ∃ b, ps[i]? = some b := ⟨_, List.getElem?_eq_getElem (by omega)⟩
    rw [behN_succ hy hb, lastE, hy]
    by_cases e : y.node = -1
    · simp only [e, if_true]; rfl
    · simp only [e, if_false, lastP]
      rw [lastP_E hl nm i (by omega)]
def surE (x : EntM) (es : List EntM) : Int := if (scanE x es es.length (-1, 0)).2 < 3 then -1 else (scanE x es es.length (-1, 0)).1
theorem surP_E {es : List EntM} {ps : List Nat} (hl : ps.length = es.length) (x : EntM) : surP x (behN es ps es.length) = surE x es := by
  unfold surP surE scanP
  rw [scanP_E hl x es.length _ (Nat.le_refl _)]
theorem scanE_lt (x : EntM) (es : List EntM) : ∀ (n : Nat) (s : Int × Int), n ≤ es.length → -1 ≤ s.1 ∧ s.1 < (es.length : Int) → -1 ≤ (scanE x es n s).1 ∧ (scanE x es n s).1 < (es.length : Int)
  | 0, s, _, h => h
  | i + 1, s, hn, h => by
    unfold scanE
    split
    · split
      · exact h
      · refine scanE_lt x es i _ (by omega) ?_
        split
        · simp; omega
        · exact h
    · exact h
theorem surE_lt (x : EntM) (es : List EntM) : -1 ≤ surE x es ∧ (surE x es < (es.length : Int) ∨ surE x es = -1) := by
  unfold surE
  split
  · exact ⟨by omega, .inr rfl⟩
  · by_cases h0 : es.length = 0
    · rw [h0]; exact ⟨by simp [scanE], .inr (by simp [scanE])⟩
    · have := scanE_lt x es es.length (-1, 0) (Nat.le_refl _) ⟨by omega, by simp; omega⟩
      exact ⟨this.1, .inl this.2⟩

def delE (es : List EntM) (i : Int) : List EntM := if 0 ≤ i then es.take i.toNat ++ es.drop (i.toNat + 1) else es
theorem UpdWAc.of {w w4 w' : World} {base bW : Nat} {F G : Nat → Prop} {es : List EntM} (hM : Mod F w w4) (hG : ∀ k, G k → F k ∨ w.heap.size ≤ k) (hu : UpdWAc G w4 w' base bW es) : UpdWAc F w w' base bW es := by
  obtain ⟨F', h1, h2, h3⟩ := hu
  refine ⟨F', h1, mod_then hM h2 hG, fun k hk => ?_⟩
  rcases h3 k hk with e | e
  · exact hG k e
  · exact .inr (Nat.le_trans hM.size e)
/-- A new entry put in. -/
theorem put_gen {w : World} {base bW bx : Nat} {F FX : Nat → Prop} {v : Value} {ps : List Nat} {es : List EntM} {x : EntM} (h : RowMAc w base bW F v ps es) (hx : EntIn w FX bx x) (hFX : ∀ k, FX k → base ≤ k ∧ k < w.heap.size) (hn : ¬ F bx) (i : Nat) (hi : i ≤ es.length) (hl : es.length < 1000000000000) :
    Calls Tryz.prog 69 #[.pointer (some ⟨bW, 0, none⟩), .int .i64 i, ptrV bx] w fun e w' => e = .returned (.tuple #[]) ∧ UpdWAc (fun k => F k ∨ FX k) w w' base bW (es.take i ++ x :: es.drop i) := by
  refine rput_any (h.wide (fun k hk => .inl hk) (fun k hk => hk.elim (h.lt k) (hFX k))) (hx.wide (fun k hk => .inr hk)) (fun hm => ?_) i hi hl
  obtain ⟨j, hj⟩ := List.mem_iff_getElem?.1 hm
  obtain ⟨y, hy⟩ : ∃ y, es[j]? = some y := ⟨_, List.getElem?_eq_getElem (by rw [← h.len]; exact (List.getElem?_eq_some_iff.1 hj).1)⟩
  exact hn (h.ents j bx y hj hy).fb

section
variable {w : World} {base baseA bL bA bW : Nat} {ks : List Key} {F FA FL : Nat → Prop} {v : Value} {ps : List Nat} {es : List EntM}

set_option maxHeartbeats 1000000 in
theorem lnew_any (ha : ArK w baseA bA ks FA) (hb : base ≤ w.heap.size) : Calls Tryz.prog 24 #[.pointer (some ⟨bA, 0, none⟩)] w fun e w' => ∃ bL F, e = .returned (.tuple #[.pointer (some ⟨bL, 0, none⟩), .int .i64 0]) ∧ LiS w' base bL bA [] F ∧ Below w.heap.size w w' ∧ ∀ k, F k → w.heap.size ≤ k := by
  have HL := hide (len_k ha)
  have hm := ha.most
  have hz : ((ks.length : Int) == 0) = false := beq_eq_false_iff_ne.2 (by omega)
  have HB := hide hb
  clear ha hm hb
  go_enter Tryz.func24, Tryz.ntmps24
  go_wp2_with (go_at_call 12; refine (unhide HL).mono ?_; rintro e w1 ⟨rfl, rfl⟩)
  go_ret2
  have hB := below_two w (.cells #[.slice none 0 0] 143) (.cells #[.pointer (some ⟨bA, 0, none⟩), .pointer (some ⟨w.heap.size, 0, none⟩)] 119)
  refine ⟨w.heap.size + 1, fun k => k = w.heap.size + 1 ∨ k = w.heap.size, rfl, ⟨w.heap.size, .slice none 0 0, [], fun k => k = w.heap.size, ⟨heap_alloc2_new _ _ _, ⟨heap_alloc2_old _ _ _, World.ownsRow_nil _ _ _ _, rfl, List.nodup_nil, fun i b x e => by simp at e, rfl, fun k e => by simp [Value.ownBlock] at e, fun k e => ?_⟩, by omega, by have := unhide HB; omega⟩, fun k => Iff.rfl⟩, hB, fun k e => by omega⟩
  have := unhide HB
  subst e
  simp
  omega

set_option maxHeartbeats 2000000 in
theorem lmark_any (h : LiM w base bL bA bW F v ps es) (hF : ∀ k, FL k ↔ (k = bL ∨ F k)) (hl : es.length < 1000000000000) : Calls Tryz.prog 31 #[.pointer (some ⟨bL, 0, none⟩)] w fun e w' => e = .returned (.int .i64 0) ∧ UpdL FL w w' base bL bA (es ++ [mark0]) := by
  obtain ⟨h0, h1⟩ := h.cells
  have HM := hide (lmade_any h)
  have HSZ := hide (fun (W : World) (hb : Below w.heap.size w W) => rsize_any (h.below hb).row)
  have HP : Hid (∀ w2, Below w.heap.size w w2 → EntIn w2 (fun k => w.heap.size ≤ k ∧ k < w2.heap.size) w.heap.size mark0 → Calls Tryz.prog 69 #[.pointer (some ⟨bW, 0, none⟩), .int .i64 es.length, .pointer (some ⟨w.heap.size, 0, none⟩)] w2 fun e w' => e = .returned (.tuple #[]) ∧ UpdL FL w w' base bL bA (es ++ [mark0]) ∧ w'.cell? ⟨bL, 1, none⟩ = some (.pointer (some ⟨bW, 0, none⟩))) := hide (fun w2 hb hx => by
    have hlo := h.lo
    have hlt := lt_of_block h.box
    refine (put_gen (h.below hb).row hx (fun k hk => ⟨by omega, hk.2⟩) (fun e => by have := h.row.lt _ e; omega) es.length (Nat.le_refl _) hl).mono ?_
    rintro e w' ⟨rfl, hu⟩
    rw [List.take_length, List.drop_length] at hu
    have hu2 := UpdWAc.of (Mod.of_below (F := F) hb) (fun k hk => hk.imp id (fun e => e.1)) hu
    refine ⟨rfl, h.upd hF hu2, ?_⟩
    obtain ⟨_, _, h2, _⟩ := hu2
    exact cell_of_row _ _ 1 _ _ _ ((h2.block bL hlt h.nl).trans h.box))
  have HC : Hid (∀ W, Below w.heap.size w W → W.cell? ⟨bL, 1, none⟩ = some (.pointer (some ⟨bW, 0, none⟩))) := hide (fun W hb => ((h.below hb).cells).2)
  clear h hF hl
  go_enter Tryz.func31, Tryz.ntmps31
  go_wp2_with (first | (go_at_call 53; refine (unhide HM).mono ?_; rintro e w1 ⟨rfl, rfl⟩))
  go_region_held3 (fun W' => W'.cell? ⟨bL, 1, none⟩ = some (.pointer (some ⟨bW, 0, none⟩))) (first | exact unhide HC3 | exact (unhide HC) w2 (unhide HB2) | exact (unhide HC) w (Below.refl _ _)) (first
    | (go_at_call 54; refine ((unhide HSZ) _ (by first | exact Below.refl _ _ | exact (Below.refl _ _).drew)).mono ?_; rintro e w1 ⟨rfl, rfl⟩)
    | (go_at_call 78; refine (newMarker_any _).mono ?_; rintro e w2 ⟨rfl, hx, hb⟩; have HX := hide hx; have HB2 := hide (show Below w.heap.size w w2 from ⟨hb.os, hb.tape, hb.output, hb.size, hb.block⟩); clear hx hb)
    | (go_at_call 69; refine ((unhide HP) _ (by first | exact unhide HB2 | exact (unhide HB2).drew) (by exact unhide HX)).mono ?_; rintro e w3 ⟨rfl, hu, hc3⟩; have HU := hide hu; have HC3 := hide hc3; clear hu hc3))
  all_goals go_wp2
  all_goals go_ret
  all_goals exact ⟨rfl, unhide HU⟩

end
end Go.Proofs.YtkakncngkmoegaaGreat

namespace Go.Proofs.YtkakncngkmoegaaGreat
open Go.RowKit Go.Sort

def newE (ks : List Key) (es : List EntM) (id : Int) (t : TokM) : EntM := ⟨id, (enterK ks es id).sp, (enterK ks es id).nm, t⟩
def pushE (ks : List Key) (es : List EntM) (id : Int) (t : TokM) : List EntM := if enterEAc ks es id = 0 then delE es (surE (newE ks es id t) es) ++ [newE ks es id t] else es
theorem EntIn.here {w : World} {F : Nat → Prop} {b : Nat} {x : EntM} (h : EntIn w F b x) : EntIn w (fun k => F k ∧ k < w.heap.size) b x := by
  have hat : ∀ {a : Option Addr} {l : List AttrM}, AtrF w F a l → AtrF w (fun k => F k ∧ k < w.heap.size) a l := fun h => ⟨h.ins, fun b off e => by
    obtain ⟨h1, cur, h2⟩ := h.own b off e
    exact ⟨⟨h1, lt_of_block h2⟩, cur, h2⟩, h.nil⟩
  have hb := h.lt
  obtain ⟨ao, ac, so, sc, h1, h2, h3⟩ := h.lies
  exact ⟨⟨h.fb, hb⟩, h.few, ao, ac, so, sc, h1, hat h2, hat h3⟩
theorem delE_len (es : List EntM) (i : Int) : (delE es i).length ≤ es.length := by
  unfold delE
  split
  · rw [List.length_append, List.length_take, List.length_drop]; omega
  · exact Nat.le_refl _

section
variable {w : World} {base baseA bL bA bW : Nat} {ks : List Key} {F FA FL : Nat → Prop} {v : Value} {ps : List Nat} {es : List EntM}
theorem RowMAc.upd (h : RowMAc w base bW F v ps es) {w' : World} (hb : Below w.heap.size w w') : UpdWAc F w' w' base bW es := ⟨F, ⟨v, ps, h.below hb⟩, ⟨rfl, rfl, rfl, Nat.le_refl _, fun _ _ _ => rfl⟩, fun _ e => .inl e⟩
theorem UpdWAc.drew {w w' : World} (h : UpdWAc F w w' base bW es) : UpdWAc F w w'.drew base bW es := by
  obtain ⟨F', ⟨v, ps, h1⟩, h2, h3⟩ := h
  exact ⟨F', ⟨v, ps, h1.mod (G := fun _ => False) (mod_drew _) (fun _ _ e => e)⟩, h2.trans (mod_drew _), h3⟩
/-- The last steps of a push: a row that lost an entry or not, the new entry put in last. -/
theorem push_end (h : LiM w base bL bA bW F v ps es) (hF : ∀ k, FL k ↔ (k = bL ∨ F k)) {W W' : World} {bx : Nat} {x : EntM} {es' : List EntM} (hb : Below w.heap.size w W) (hx : EntIn W (fun k => w.heap.size ≤ k) bx x) (hu : UpdWAc F W W' base bW es') (hl : es'.length < 1000000000000) :
    (Calls Tryz.prog 54 #[.pointer (some ⟨bW, 0, none⟩)] W' fun e w' => e = .returned (.int .i64 es'.length) ∧ W' = w') ∧
    Calls Tryz.prog 69 #[.pointer (some ⟨bW, 0, none⟩), .int .i64 es'.length, .pointer (some ⟨bx, 0, none⟩)] W' fun e w' => e = .returned (.tuple #[]) ∧ UpdL FL w w' base bL bA (es' ++ [x]) ∧ w'.cell? ⟨bL, 1, none⟩ = some (.pointer (some ⟨bW, 0, none⟩)) := by
  obtain ⟨F', ⟨v', ps', h1⟩, h2, h3⟩ := hu
  refine ⟨rsize_any h1, ?_⟩
  have hlo := h.lo
  have hlt := lt_of_block h.box
  have hbx := hx.lt
  have hx2 : EntIn W' (fun k => w.heap.size ≤ k) bx x := hx.here.mod h2 (fun k hk e => by have := h.row.lt _ e; omega) |>.wide (fun k hk => hk.1)
  refine (put_gen h1 hx2.here (fun k hk => ⟨by omega, hk.2⟩) (fun e => ?_) es'.length (Nat.le_refl _) hl).mono ?_
  · rcases h3 _ e with e | e
    · have := h.row.lt _ e; have := hx.fb; omega
    · omega
  · rintro e w' ⟨rfl, hu⟩
    rw [List.take_length, List.drop_length] at hu
    have hu2 : UpdWAc F w w' base bW (es' ++ [x]) := UpdWAc.of ((Mod.of_below (F := F) hb).trans h2) (fun k hk => by
      rcases hk with e | e
      · rcases h3 k e with e | e
        · exact .inl e
        · exact .inr (Nat.le_trans hb.size e)
      · exact .inr e.1) hu
    refine ⟨rfl, h.upd hF hu2, ?_⟩
    obtain ⟨_, _, h4, _⟩ := hu2
    exact cell_of_row _ _ 1 _ _ _ ((h4.block bL hlt h.nl).trans h.box)

set_option maxHeartbeats 2000000 in
theorem lpush_any (ha : ArK w baseA bA ks FA) (h : LiM w base bL bA bW F v ps es) (hF : ∀ k, FL k ↔ (k = bL ∨ F k)) (hl : es.length < 1000000000000) (id : Int) (t : TokM) (a : Option Addr) (cap : Nat) (hi : AttrsIn w a t.attrs) (hn : t.attrs.length ≤ 2513169434916) :
    Calls Tryz.prog 21 #[.pointer (some ⟨bL, 0, none⟩), .int .i64 id, .agg (t.cells (.slice a t.attrs.length cap)).toArray] w fun e w' => e = .returned (.int .i64 (enterEAc ks es id)) ∧ UpdL FL w w' base bL bA (pushE ks es id t) := by
  have HME := hide (fun (W : World) (hb : Below w.heap.size w W) => mayEnter_any (ha.below hb) (h.below hb) hl id)
  have HNE := hide (fun (W : World) (hb : Below w.heap.size w W) => newEntry_any W id (enterK ks es id).sp (enterK ks es id).nm t a cap (hi.below hb) hn)
  have HSU : Hid (∀ (W : World) (bx : Nat), Below w.heap.size w W → EntIn W (fun k => w.heap.size ≤ k) bx (newE ks es id t) → Calls Tryz.prog 67 #[.pointer (some ⟨bW, 0, none⟩), .pointer (some ⟨bx, 0, none⟩)] W fun e w' => e = .returned (.int .i64 (surE (newE ks es id t) es)) ∧ Below W.heap.size W w') := hide (fun W bx hb hx => by
    refine (surplus_any (h.below hb).row hx.here (fun k hk => hk.2) hl).mono ?_
    rintro e w' ⟨rfl, hb'⟩
    exact ⟨by rw [surP_E h.row.len], hb'⟩)
  have HRE : Hid (∀ (W : World), Below w.heap.size w W → 0 ≤ surE (newE ks es id t) es → Calls Tryz.prog 68 #[.pointer (some ⟨bW, 0, none⟩), .int .i64 (surE (newE ks es id t) es)] W fun e w' => e = .returned (.tuple #[]) ∧ UpdWAc F W w' base bW (delE es (surE (newE ks es id t) es))) := hide (fun W hb h0 => by
    have h1 := surE_lt (newE ks es id t) es
    rw [delE, if_pos h0]
    generalize surE (newE ks es id t) es = s at *
    obtain ⟨n, rfl⟩ : ∃ n : Nat, s = n := ⟨s.toNat, by omega⟩
    exact rremove_any (h.below hb).row n (by omega) hl)
  have HPE := hide (fun (W W' : World) (bx : Nat) (hb : Below w.heap.size w W) hx hu => push_end (W' := W') (bx := bx) (x := newE ks es id t) h hF hb hx hu (Nat.lt_of_le_of_lt (delE_len es (surE (newE ks es id t) es)) hl))
  have HRU := hide (fun (W : World) (hb : Below w.heap.size w W) (h0 : ¬ 0 ≤ surE (newE ks es id t) es) => show UpdWAc F W W base bW (delE es (surE (newE ks es id t) es)) from by rw [delE, if_neg h0]; exact h.row.upd hb)
  have HC : Hid (∀ W, Below w.heap.size w W → W.cell? ⟨bL, 1, none⟩ = some (.pointer (some ⟨bW, 0, none⟩))) := hide (fun W hb => ((h.below hb).cells).2)
  have HC2 : Hid (∀ W W', Below w.heap.size w W → UpdWAc F W W' base bW (delE es (surE (newE ks es id t) es)) → W'.cell? ⟨bL, 1, none⟩ = some (.pointer (some ⟨bW, 0, none⟩))) := hide (fun W W' hb hu => by
    obtain ⟨_, _, h2, _⟩ := hu
    exact cell_of_row _ _ 1 _ _ _ ((h2.block bL (lt_of_block (h.below hb).box) h.nl).trans (h.below hb).box))
  have HER := hide (fun (W : World) (hb : Below w.heap.size w W) => UpdL.after hb (LiS.upd (show LiS W base bL bA es FL from ⟨bW, v, ps, F, h.below hb, hF⟩) (Below.refl _ W)))
  clear ha h hF hl hi hn
  unfold pushE
  by_cases hE : enterEAc ks es id = 0
  · rw [if_pos hE, hE]
    rw [hE] at HME
    unfold newE at *
    generalize enterK ks es id = ek at *
    generalize surE ⟨id, ek.sp, ek.nm, t⟩ es = s at *
    obtain ⟨ksp, knm⟩ := ek
    obtain ⟨t0, t1, t2, t3, t4, t5, t6, t7, ta⟩ := t
    simp only [TokM.cells] at *
    have HT : Hid (∀ w1, Below (w.alloc (.cells #[.int .i64 t0, .string t1, .string t2, .string t3, .int .i64 t4, .bool t5, .int .i32 t6, .bool t7, .slice a ta.length cap] 52)).heap.size (w.alloc (.cells #[.int .i64 t0, .string t1, .string t2, .string t3, .int .i64 t4, .bool t5, .int .i32 t6, .bool t7, .slice a ta.length cap] 52)) w1 → (w1.cell? ⟨w.heap.size, 0, none⟩ = some (.int .i64 t0) ∧ w1.cell? ⟨w.heap.size, 1, none⟩ = some (.string t1) ∧ w1.cell? ⟨w.heap.size, 2, none⟩ = some (.string t2) ∧ w1.cell? ⟨w.heap.size, 3, none⟩ = some (.string t3) ∧ w1.cell? ⟨w.heap.size, 4, none⟩ = some (.int .i64 t4) ∧ w1.cell? ⟨w.heap.size, 5, none⟩ = some (.bool t5) ∧ w1.cell? ⟨w.heap.size, 6, none⟩ = some (.int .i32 t6) ∧ w1.cell? ⟨w.heap.size, 7, none⟩ = some (.bool t7) ∧ w1.cell? ⟨w.heap.size, 8, none⟩ = some (.slice a ta.length cap)) ∧ Below w.heap.size w w1 ∧ ¬ w.heap.size = w1.heap.size ∧ ¬ w1.heap.size = w.heap.size) := hide (fun w1 hb => by
      have hbl := (hb.block _ (by simp)).trans (heap_alloc_new w (.cells #[.int .i64 t0, .string t1, .string t2, .string t3, .int .i64 t4, .bool t5, .int .i32 t6, .bool t7, .slice a ta.length cap] 52))
      obtain ⟨d0, d1, d2, d3, d4, d5, d6, d7, d8, _⟩ := nine hbl
      have := lt_of_block hbl
      exact ⟨⟨d0, d1, d2, d3, d4, d5, d6, d7, d8⟩, (below_newAc w _).trans (hb.mono (by simp)), by omega, by omega⟩)
    by_cases hs : 0 ≤ s
    · go_enter Tryz.func21, Tryz.ntmps21
      go_wp2_with (first | (go_at_call 65; refine ((unhide HME) _ (by exact below_newAc _ _)).mono ?_; rintro e w1 ⟨rfl, hb1⟩; obtain ⟨_, hbw, kne, kne2⟩ := (unhide HT) w1 hb1; obtain ⟨⟨d0, d1, d2, d3, d4, d5, d6, d7, d8⟩, _⟩ := (unhide HT) (w1.alloc (.cells #[.int .i64 ksp, .string knm] 123)) (hb1.alloc hb1.size _); have HB1 := hide hbw; clear hb1 hbw; unfold KinM.agg) | (go_at_call 66; refine ((unhide HNE) _ (by exact (unhide HB1).alloc (unhide HB1).size _)).mono ?_; rintro e w2 ⟨bx, rfl, hx, hb2⟩; have hB1 := (unhide HB1).alloc (unhide HB1).size (.cells #[.int .i64 ksp, .string knm] 123); have HB2 := hide (hB1.trans (hb2.mono hB1.size)); have HX := hide (hx.wide (G := fun k => w.heap.size ≤ k) (fun k hk => Nat.le_trans hB1.size hk.1)); have c2 := (unhide HC) w2 (unhide HB2); clear hx hb2 hB1) | (go_at_call 67; refine ((unhide HSU) _ bx (unhide HB2) (unhide HX)).mono ?_; rintro e w3 ⟨rfl, hb3⟩; have HB3 := hide ((unhide HB2).trans (hb3.mono (unhide HB2).size)); have HX3 := hide ((unhide HX).mod (Mod.of_below (F := fun _ => False) hb3) (fun _ _ e => e)); have c3 := (unhide HC) w3 (unhide HB3); clear hb3) | (go_at_call 68; refine ((unhide HRE) _ (unhide HB3) hs).mono ?_; rintro e w4 ⟨rfl, hu⟩; have c4 := (unhide HC2) w3 w4 (unhide HB3) hu; have HU := hide hu; clear hu))
      go_region_held3 (fun W' => W'.cell? ⟨bL, 1, none⟩ = some (.pointer (some ⟨bW, 0, none⟩))) (first | exact unhide HC6 | exact c4) (first
        | (go_at_call 54; refine ((unhide HPE) w3 _ bx (unhide HB3) (unhide HX3) (by first | exact unhide HU | exact (unhide HU).drew)).1.mono ?_; rintro e w5 ⟨rfl, rfl⟩) | (go_at_call 69; refine ((unhide HPE) w3 _ bx (unhide HB3) (unhide HX3) (by first | exact unhide HU | exact (unhide HU).drew)).2.mono ?_; rintro e w6 ⟨rfl, hu, hc6⟩; have HUL := hide hu; have HC6 := hide hc6; clear hu hc6))
      all_goals go_wp2
      all_goals go_ret
      all_goals exact ⟨rfl, unhide HUL⟩
    · go_enter Tryz.func21, Tryz.ntmps21
      go_wp2_with (first | (go_at_call 65; refine ((unhide HME) _ (by exact below_newAc _ _)).mono ?_; rintro e w1 ⟨rfl, hb1⟩; obtain ⟨_, hbw, kne, kne2⟩ := (unhide HT) w1 hb1; obtain ⟨⟨d0, d1, d2, d3, d4, d5, d6, d7, d8⟩, _⟩ := (unhide HT) (w1.alloc (.cells #[.int .i64 ksp, .string knm] 123)) (hb1.alloc hb1.size _); have HB1 := hide hbw; clear hb1 hbw; unfold KinM.agg) | (go_at_call 66; refine ((unhide HNE) _ (by exact (unhide HB1).alloc (unhide HB1).size _)).mono ?_; rintro e w2 ⟨bx, rfl, hx, hb2⟩; have hB1 := (unhide HB1).alloc (unhide HB1).size (.cells #[.int .i64 ksp, .string knm] 123); have HB2 := hide (hB1.trans (hb2.mono hB1.size)); have HX := hide (hx.wide (G := fun k => w.heap.size ≤ k) (fun k hk => Nat.le_trans hB1.size hk.1)); have c2 := (unhide HC) w2 (unhide HB2); clear hx hb2 hB1) | (go_at_call 67; refine ((unhide HSU) _ bx (unhide HB2) (unhide HX)).mono ?_; rintro e w3 ⟨rfl, hb3⟩; have HB3 := hide ((unhide HB2).trans (hb3.mono (unhide HB2).size)); have HX3 := hide ((unhide HX).mod (Mod.of_below (F := fun _ => False) hb3) (fun _ _ e => e)); have c3 := (unhide HC) w3 (unhide HB3); clear hb3))
      go_region_held3 (fun W' => W'.cell? ⟨bL, 1, none⟩ = some (.pointer (some ⟨bW, 0, none⟩))) (first | exact unhide HC6 | exact c3) (first
        | (go_at_call 54; refine ((unhide HPE) w3 _ bx (unhide HB3) (unhide HX3) (by first | exact (unhide HRU) _ (unhide HB3) hs | exact ((unhide HRU) _ (unhide HB3) hs).drew)).1.mono ?_; rintro e w5 ⟨rfl, rfl⟩) | (go_at_call 69; refine ((unhide HPE) w3 _ bx (unhide HB3) (unhide HX3) (by first | exact (unhide HRU) _ (unhide HB3) hs | exact ((unhide HRU) _ (unhide HB3) hs).drew)).2.mono ?_; rintro e w6 ⟨rfl, hu, hc6⟩; have HUL := hide hu; have HC6 := hide hc6; clear hu hc6))
      all_goals go_wp2
      all_goals go_ret
      all_goals exact ⟨rfl, unhide HUL⟩
  · rw [if_neg hE]
    have hE' : (enterEAc ks es id != 0) = true := by simpa using hE
    generalize enterEAc ks es id = en at *
    generalize (enterK ks es id) = ek at *
    obtain ⟨t0, t1, t2, t3, t4, t5, t6, t7, ta⟩ := t
    simp only [TokM.cells] at *
    have HT : Hid (∀ w1, Below (w.alloc (.cells #[.int .i64 t0, .string t1, .string t2, .string t3, .int .i64 t4, .bool t5, .int .i32 t6, .bool t7, .slice a ta.length cap] 52)).heap.size (w.alloc (.cells #[.int .i64 t0, .string t1, .string t2, .string t3, .int .i64 t4, .bool t5, .int .i32 t6, .bool t7, .slice a ta.length cap] 52)) w1 → (w1.cell? ⟨w.heap.size, 0, none⟩ = some (.int .i64 t0) ∧ w1.cell? ⟨w.heap.size, 1, none⟩ = some (.string t1) ∧ w1.cell? ⟨w.heap.size, 2, none⟩ = some (.string t2) ∧ w1.cell? ⟨w.heap.size, 3, none⟩ = some (.string t3) ∧ w1.cell? ⟨w.heap.size, 4, none⟩ = some (.int .i64 t4) ∧ w1.cell? ⟨w.heap.size, 5, none⟩ = some (.bool t5) ∧ w1.cell? ⟨w.heap.size, 6, none⟩ = some (.int .i32 t6) ∧ w1.cell? ⟨w.heap.size, 7, none⟩ = some (.bool t7) ∧ w1.cell? ⟨w.heap.size, 8, none⟩ = some (.slice a ta.length cap)) ∧ Below w.heap.size w w1 ∧ ¬ w.heap.size = w1.heap.size ∧ ¬ w1.heap.size = w.heap.size) := hide (fun w1 hb => by
      have hbl := (hb.block _ (by simp)).trans (heap_alloc_new w (.cells #[.int .i64 t0, .string t1, .string t2, .string t3, .int .i64 t4, .bool t5, .int .i32 t6, .bool t7, .slice a ta.length cap] 52))
      obtain ⟨d0, d1, d2, d3, d4, d5, d6, d7, d8, _⟩ := nine hbl
      have := lt_of_block hbl
      exact ⟨⟨d0, d1, d2, d3, d4, d5, d6, d7, d8⟩, (below_newAc w _).trans (hb.mono (by simp)), by omega, by omega⟩)
    go_enter Tryz.func21, Tryz.ntmps21
    obtain ⟨ksp, knm⟩ := ek
    go_wp2_with (first | (go_at_call 65; refine ((unhide HME) _ (by exact below_newAc _ _)).mono ?_; rintro e w1 ⟨rfl, hb1⟩; obtain ⟨_, hbw, kne, kne2⟩ := (unhide HT) w1 hb1; obtain ⟨⟨d0, d1, d2, d3, d4, d5, d6, d7, d8⟩, _⟩ := (unhide HT) (w1.alloc (.cells #[.int .i64 ksp, .string knm] 123)) (hb1.alloc hb1.size _); have HB1 := hide hbw; clear hb1 hbw; unfold KinM.agg))
    go_ret
    exact ⟨rfl, (unhide HER) _ ((unhide HB1).alloc (unhide HB1).size _)⟩
end
end Go.Proofs.YtkakncngkmoegaaGreat

namespace Go.Proofs.YtkakncngkmoegaaGreat
open Go.RowKit

def liOb (base bL bA : Nat) (es : List EntM) : Ob base := ⟨fun w F => LiS w base bL bA es F, fun _ _ _ h hk => h.lt hk, fun _ _ _ _ h hm hG => h.mod hm hG⟩

section
variable {w wx : World} {obs : List (Ob w.heap.size)} {i j bL bA : Nat} {ks : List Key} {es : List EntM}
theorem Env.li (h : Env w wx obs) (hj : obs[j]? = some (liOb _ bL bA es)) : ∃ F, LiS wx w.heap.size bL bA es F ∧ ∀ w2 es2, UpdL F wx w2 w.heap.size bL bA es2 → Env w w2 (obs.set j (liOb _ bL bA es2)) := by
  obtain ⟨F, ho, _, hk⟩ := h.upd hj
  refine ⟨F, ho, fun w2 es2 hu => ?_⟩
  obtain ⟨F', h1, h2, h3⟩ := hu
  exact hk w2 (liOb _ bL bA es2) F' h1 h2 h3
theorem env_lmark (h : Env w wx obs) (hj : obs[j]? = some (liOb _ bL bA es)) (hl : es.length < 1000000000000) :
    Calls Tryz.prog 31 #[.pointer (some ⟨bL, 0, none⟩)] wx fun e w' => e = .returned (.int .i64 0) ∧ Env w w' (obs.set j (liOb _ bL bA (es ++ [mark0]))) := by
  obtain ⟨F, ⟨bW, v, ps, R, hm, hF⟩, h3⟩ := h.li hj
  exact (lmark_any hm hF hl).mono fun _ _ ⟨a, b⟩ => ⟨a, h3 _ _ b⟩
theorem env_llen (h : Env w wx obs) (hj : obs[j]? = some (liOb _ bL bA es)) : Calls Tryz.prog 16 #[.pointer (some ⟨bL, 0, none⟩)] wx fun e w' => e = .returned (.int .i64 es.length) ∧ wx = w' := by
  obtain ⟨F, ⟨bW, v, ps, R, hm, hF⟩, h3⟩ := h.li hj
  exact llen_any hm
theorem env_lfind (h : Env w wx obs) (hj : obs[j]? = some (liOb _ bL bA es)) (hl : es.length < 1000000000000) (id : Int) :
    Calls Tryz.prog 84 #[.pointer (some ⟨bL, 0, none⟩), .int .i64 id] wx fun e w' => e = .returned (.int .i64 (placeE es id)) ∧ Env w w' obs := by
  obtain ⟨F, ⟨bW, v, ps, R, hm, hF⟩, h3⟩ := h.li hj
  exact (lfind_any hm hl id).mono fun _ _ ⟨a, b⟩ => ⟨a, h.more b⟩
theorem env_llast (h : Env w wx obs) (hj : obs[j]? = some (liOb _ bL bA es)) (hl : es.length < 1000000000000) (nm : ByteArray) :
    Calls Tryz.prog 88 #[.pointer (some ⟨bL, 0, none⟩), .string nm] wx fun e w' => e = .returned (.int .i64 (lastE nm es es.length)) ∧ Env w w' obs := by
  obtain ⟨F, ⟨bW, v, ps, R, hm, hF⟩, h3⟩ := h.li hj
  refine (llast_any hm hl nm).mono ?_
  rintro e w' ⟨rfl, hb⟩
  exact ⟨by rw [lastP_E hm.row.len nm es.length (Nat.le_refl _)], h.more hb⟩
end
section
variable {w wx : World} {obs : List (Ob w.heap.size)} {i j bL bA : Nat} {os : List OneM} {es : List EntM}
theorem Env.arK (h : Env w wx obs) (hi : obs[i]? = some (aO _ bA os)) : ∃ FA, ArK wx w.heap.size bA (keysO os) FA := by
  obtain ⟨ns, F, h1, hs, _⟩ := h.a hi
  exact ⟨F, ns, h1, hs.keys⟩
theorem alnew_any (h : Env w wx obs) (hi : obs[i]? = some (aO _ bA os)) :
    Calls Tryz.prog 24 #[.pointer (some ⟨bA, 0, none⟩)] wx fun e w' => ∃ bL, e = .returned (.tuple #[.pointer (some ⟨bL, 0, none⟩), .int .i64 0]) ∧ Env w w' (obs ++ [liOb _ bL bA []]) := by
  obtain ⟨F, h1⟩ := h.arK hi
  refine (lnew_any h1 h.bel.size).mono ?_
  rintro e w' ⟨bL, F, rfl, h1, h2, h3⟩
  exact ⟨bL, rfl, h.add h2 (o := liOb _ bL bA []) h1 h3⟩
theorem alpush_any (h : Env w wx obs) (hi : obs[i]? = some (aO _ bA os)) (hj : obs[j]? = some (liOb _ bL bA es)) (hl : es.length < 1000000000000) (id : Int) (t : TokM) (a : Option Addr) (cap : Nat) (ht : AttrsIn wx a t.attrs) (hn : t.attrs.length ≤ 2513169434916) :
    Calls Tryz.prog 21 #[.pointer (some ⟨bL, 0, none⟩), .int .i64 id, .agg (t.cells (.slice a t.attrs.length cap)).toArray] wx fun e w' => e = .returned (.int .i64 (enterEAc (keysO os) es id)) ∧ Env w w' (obs.set j (liOb _ bL bA (pushE (keysO os) es id t))) := by
  obtain ⟨FA, h1⟩ := h.arK hi
  obtain ⟨F, ⟨bW, v, ps, R, hm, hF⟩, h3⟩ := h.li hj
  exact (lpush_any h1 hm hF hl id t a cap ht hn).mono fun _ _ ⟨a, b⟩ => ⟨a, h3 _ _ b⟩
end
end Go.Proofs.YtkakncngkmoegaaGreat

namespace Go.Proofs.YtkakncngkmoegaaGreat
open Go.RowKit Go.Sort

theorem pairsN_lt {es : List EntM} {y : Nat × Int} : ∀ {n : Nat}, y ∈ pairsN es n → y.1 < n
  | 0, h => by simp [pairsN] at h
  | n + 1, h => by
    rw [pairsN] at h
    rcases List.mem_append.1 h with h | h
    · have := pairsN_lt h; omega
    · cases e : es[n]? with
      | none => rw [e] at h; simp at h
      | some x =>
        rw [e] at h
        simp only at h
        split at h
        · simp at h
        · simp only [List.mem_singleton] at h
          subst h
          exact Nat.lt_succ_self n
theorem findP_le (id : Int) (m : Nat) : ∀ l : List (Nat × Int), (∀ y ∈ l, y.1 < m) → findP id l < (m : Int)
  | [], _ => by simp [findP]; omega
  | (i, x) :: r, h => by
    have h1 := findP_le id m r (fun y hy => h y (List.mem_cons_of_mem _ hy))
    have h2 := h (i, x) (by simp)
    unfold findP
    split
    · simp only at h2; omega
    · exact h1
theorem placeE_lt (es : List EntM) (id : Int) : placeE es id < (es.length : Int) := findP_le id es.length _ (fun _ hy => pairsN_lt hy)

/-- What Remove answers. -/
def remA (es : List EntM) (id : Int) : Int := if 0 ≤ placeE es id then 0 else 6

section
variable {w : World} {base baseA bL bA bW : Nat} {ks : List Key} {F FA FL : Nat → Prop} {v : Value} {ps : List Nat} {es : List EntM}
set_option maxHeartbeats 2000000 in
theorem lremove_any (h : LiM w base bL bA bW F v ps es) (hF : ∀ k, FL k ↔ (k = bL ∨ F k)) (hl : es.length < 1000000000000) (id : Int) :
    Calls Tryz.prog 82 #[.pointer (some ⟨bL, 0, none⟩), .int .i64 id] w fun e w' => e = .returned (.int .i64 (remA es id)) ∧ UpdL FL w w' base bL bA (delE es (placeE es id)) := by
  have HM := hide (lmade_any h)
  have HFI : Hid (Calls Tryz.prog 84 #[.pointer (some ⟨bL, 0, none⟩), .int .i64 id] w fun e w' => e = .returned (.int .i64 (placeE es id)) ∧ Below w.heap.size w w') := hide (lfind_any h hl id)
  have HC : Hid (∀ W, Below w.heap.size w W → W.cell? ⟨bL, 1, none⟩ = some (.pointer (some ⟨bW, 0, none⟩))) := hide (fun W hb => ((h.below hb).cells).2)
  have HRE : Hid (∀ (W : World), Below w.heap.size w W → 0 ≤ placeE es id → Calls Tryz.prog 68 #[.pointer (some ⟨bW, 0, none⟩), .int .i64 (placeE es id)] W fun e w' => e = .returned (.tuple #[]) ∧ UpdL FL w w' base bL bA (delE es (placeE es id))) := hide (fun W hb h0 => by
    have h1 := placeE_lt es id
    rw [delE, if_pos h0]
    generalize placeE es id = s at *
    obtain ⟨n, rfl⟩ : ∃ n : Nat, s = n := ⟨s.toNat, by omega⟩
    exact (rremove_any (h.below hb).row n (by omega) hl).mono fun e w' ⟨a, b⟩ => ⟨a, UpdL.after hb ((h.below hb).upd hF b)⟩)
  have HNO : Hid (∀ (W : World), Below w.heap.size w W → ¬ 0 ≤ placeE es id → UpdL FL w W base bL bA (delE es (placeE es id))) := hide (fun W hb h0 => by
    rw [delE, if_neg h0]
    exact UpdL.after hb (LiS.upd (show LiS W base bL bA es FL from ⟨bW, v, ps, F, h.below hb, hF⟩) (Below.refl _ W)))
  clear h hF hl
  unfold remA
  generalize placeE es id = s at *
  by_cases hs : 0 ≤ s
  · rw [if_pos hs]
    have hs' : ¬ s < 0 := by omega
    go_enter Tryz.func82, Tryz.ntmps82
    go_wp2_with (first | (go_at_call 53; refine (unhide HM).mono ?_; rintro e w1 ⟨rfl, rfl⟩) | (go_at_call 84; refine (unhide HFI).mono ?_; rintro e w1 ⟨rfl, hb1⟩; have c1 := (unhide HC) w1 hb1; have HB1 := hide hb1; clear hb1) | (go_at_call 68; refine ((unhide HRE) _ (unhide HB1) hs).mono ?_; rintro e w2 ⟨rfl, hu⟩; have HU := hide hu; clear hu))
    go_ret
    exact ⟨rfl, unhide HU⟩
  · rw [if_neg hs]
    have hs' : s < 0 := by omega
    go_enter Tryz.func82, Tryz.ntmps82
    go_wp2_with (first | (go_at_call 53; refine (unhide HM).mono ?_; rintro e w1 ⟨rfl, rfl⟩) | (go_at_call 84; refine (unhide HFI).mono ?_; rintro e w1 ⟨rfl, hb1⟩; have c1 := (unhide HC) w1 hb1; have HB1 := hide hb1; clear hb1))
    go_ret
    exact ⟨rfl, (unhide HNO) _ (unhide HB1) hs⟩
end
section
variable {w wx : World} {obs : List (Ob w.heap.size)} {j bL bA : Nat} {es : List EntM}
theorem env_lremove (h : Env w wx obs) (hj : obs[j]? = some (liOb _ bL bA es)) (hl : es.length < 1000000000000) (id : Int) :
    Calls Tryz.prog 82 #[.pointer (some ⟨bL, 0, none⟩), .int .i64 id] wx fun e w' => e = .returned (.int .i64 (remA es id)) ∧ Env w w' (obs.set j (liOb _ bL bA (delE es (placeE es id)))) := by
  obtain ⟨F, ⟨bW, v, ps, R, hm, hF⟩, h3⟩ := h.li hj
  exact (lremove_any hm hF hl id).mono fun _ _ ⟨a, b⟩ => ⟨a, h3 _ _ b⟩
end
end Go.Proofs.YtkakncngkmoegaaGreat

namespace Go.Proofs.YtkakncngkmoegaaGreat
open Go.RowKit Go.Sort

/-- What Put answers, and what it makes of the list. -/
def putA (ks : List Key) (es : List EntM) (i : Int) (id : Int) : Int := if enterEAc ks es id = 0 then (if i < 0 ∨ (es.length : Int) < i then 1 else 0) else enterEAc ks es id
def putEAc (ks : List Key) (es : List EntM) (i : Int) (id : Int) (t : TokM) : List EntM := if putA ks es i id = 0 then es.take i.toNat ++ newE ks es id t :: es.drop i.toNat else es
theorem putA_yes {ks : List Key} {es : List EntM} {n : Nat} {id : Int} (h : enterEAc ks es id = 0) (hn : n ≤ es.length) : putA ks es n id = 0 := by
  rw [putA, if_pos h, if_neg (by omega)]
theorem putA_no {ks : List Key} {es : List EntM} {i : Int} {id : Int} (h : enterEAc ks es id = 0) (hn : i < 0 ∨ (es.length : Int) < i) : putA ks es i id = 1 := by
  rw [putA, if_pos h, if_pos hn]
theorem putA_err {ks : List Key} {es : List EntM} {i : Int} {id : Int} (h : ¬ enterEAc ks es id = 0) : putA ks es i id = enterEAc ks es id := by
  rw [putA, if_neg h]

section
variable {w : World} {base baseA bL bA bW : Nat} {ks : List Key} {F FA FL : Nat → Prop} {v : Value} {ps : List Nat} {es : List EntM}
theorem put_endAc (h : LiM w base bL bA bW F v ps es) (hF : ∀ k, FL k ↔ (k = bL ∨ F k)) {W : World} {bx : Nat} {x : EntM} (hb : Below w.heap.size w W) (hx : EntIn W (fun k => w.heap.size ≤ k) bx x) (hl : es.length < 1000000000000) (n : Nat) (hn : n ≤ es.length) :
    Calls Tryz.prog 69 #[.pointer (some ⟨bW, 0, none⟩), .int .i64 n, .pointer (some ⟨bx, 0, none⟩)] W fun e w' => e = .returned (.tuple #[]) ∧ UpdL FL w w' base bL bA (es.take n ++ x :: es.drop n) ∧ w'.cell? ⟨bL, 1, none⟩ = some (.pointer (some ⟨bW, 0, none⟩)) := by
  have hlo := h.lo
  have hlt := lt_of_block h.box
  refine (put_gen (h.below hb).row hx.here (fun k hk => ⟨by omega, hk.2⟩) (fun e => by have := h.row.lt _ e; have := hx.fb; omega) n hn hl).mono ?_
  rintro e w' ⟨rfl, hu⟩
  have hu2 := UpdWAc.of (Mod.of_below (F := F) hb) (fun k hk => hk.imp id (fun e => e.1)) hu
  refine ⟨rfl, h.upd hF hu2, ?_⟩
  obtain ⟨_, _, h2, _⟩ := hu2
  exact cell_of_row _ _ 1 _ _ _ ((h2.block bL hlt h.nl).trans h.box)

set_option maxHeartbeats 2000000 in
theorem lput_yes (ha : ArK w baseA bA ks FA) (h : LiM w base bL bA bW F v ps es) (hF : ∀ k, FL k ↔ (k = bL ∨ F k)) (hl : es.length < 1000000000000) (id : Int) (t : TokM) (a : Option Addr) (cap : Nat) (hi : AttrsIn w a t.attrs) (hn : t.attrs.length ≤ 2513169434916) (hE : enterEAc ks es id = 0) (n : Nat) (hle : n ≤ es.length) :
    Calls Tryz.prog 126 #[.pointer (some ⟨bL, 0, none⟩), .int .i64 n, .int .i64 id, .agg (t.cells (.slice a t.attrs.length cap)).toArray] w fun e w' => e = .returned (.int .i64 0) ∧ UpdL FL w w' base bL bA (es.take n ++ newE ks es id t :: es.drop n) := by
  have HME := hide (fun (W : World) (hb : Below w.heap.size w W) => mayEnter_any (ha.below hb) (h.below hb) hl id)
  have HLE := hide (fun (W : World) (hb : Below w.heap.size w W) => llen_any (h.below hb))
  have HNE := hide (fun (W : World) (hb : Below w.heap.size w W) => newEntry_any W id (enterK ks es id).sp (enterK ks es id).nm t a cap (hi.below hb) hn)
  have HPE := hide (fun (W : World) (bx : Nat) (hb : Below w.heap.size w W) hx => put_endAc (bx := bx) (x := newE ks es id t) h hF hb hx hl n hle)
  have HC : Hid (∀ W, Below w.heap.size w W → W.cell? ⟨bL, 1, none⟩ = some (.pointer (some ⟨bW, 0, none⟩))) := hide (fun W hb => ((h.below hb).cells).2)
  have hle1 : ¬ (es.length : Int) < (n : Int) := by omega
  have hle2 : ¬ (n : Int) < 0 := by omega
  clear ha h hF hl hi hn hle
  rw [hE] at HME
  unfold newE at *
  generalize enterK ks es id = ek at *
  generalize es.take n = p1 at *
  generalize es.drop n = p2 at *
  generalize (es.length : Int) = le at *
  obtain ⟨ksp, knm⟩ := ek
  obtain ⟨t0, t1, t2, t3, t4, t5, t6, t7, ta⟩ := t
  simp only [TokM.cells] at *
  have HT : Hid (∀ w1, Below (w.alloc (.cells #[.int .i64 t0, .string t1, .string t2, .string t3, .int .i64 t4, .bool t5, .int .i32 t6, .bool t7, .slice a ta.length cap] 52)).heap.size (w.alloc (.cells #[.int .i64 t0, .string t1, .string t2, .string t3, .int .i64 t4, .bool t5, .int .i32 t6, .bool t7, .slice a ta.length cap] 52)) w1 → (w1.cell? ⟨w.heap.size, 0, none⟩ = some (.int .i64 t0) ∧ w1.cell? ⟨w.heap.size, 1, none⟩ = some (.string t1) ∧ w1.cell? ⟨w.heap.size, 2, none⟩ = some (.string t2) ∧ w1.cell? ⟨w.heap.size, 3, none⟩ = some (.string t3) ∧ w1.cell? ⟨w.heap.size, 4, none⟩ = some (.int .i64 t4) ∧ w1.cell? ⟨w.heap.size, 5, none⟩ = some (.bool t5) ∧ w1.cell? ⟨w.heap.size, 6, none⟩ = some (.int .i32 t6) ∧ w1.cell? ⟨w.heap.size, 7, none⟩ = some (.bool t7) ∧ w1.cell? ⟨w.heap.size, 8, none⟩ = some (.slice a ta.length cap)) ∧ Below w.heap.size w w1 ∧ ¬ w.heap.size = w1.heap.size ∧ ¬ w1.heap.size = w.heap.size) := hide (fun w1 hb => by
    have hbl := (hb.block _ (by simp)).trans (heap_alloc_new w (.cells #[.int .i64 t0, .string t1, .string t2, .string t3, .int .i64 t4, .bool t5, .int .i32 t6, .bool t7, .slice a ta.length cap] 52))
    obtain ⟨d0, d1, d2, d3, d4, d5, d6, d7, d8, _⟩ := nine hbl
    have := lt_of_block hbl
    exact ⟨⟨d0, d1, d2, d3, d4, d5, d6, d7, d8⟩, (below_newAc w _).trans (hb.mono (by simp)), by omega, by omega⟩)
  go_enter Tryz.func126, Tryz.ntmps126
  go_wp2_with (first | (go_at_call 65; refine ((unhide HME) _ (by exact below_newAc _ _)).mono ?_; rintro e w1 ⟨rfl, hb1⟩; obtain ⟨_, hbw, kne, kne2⟩ := (unhide HT) w1 hb1; obtain ⟨⟨d0, d1, d2, d3, d4, d5, d6, d7, d8⟩, _⟩ := (unhide HT) (w1.alloc (.cells #[.int .i64 ksp, .string knm] 123)) (hb1.alloc hb1.size _); have HB1 := hide hbw; have c1 := (unhide HC) _ (hbw.alloc hbw.size (.cells #[.int .i64 ksp, .string knm] 123)); clear hb1 hbw; unfold KinM.agg) | (go_at_call 16; refine ((unhide HLE) _ (by exact (unhide HB1).alloc (unhide HB1).size _)).mono ?_; rintro e w9 ⟨rfl, rfl⟩))
  go_region_with (first
    | (go_at_call 66; refine ((unhide HNE) _ (by first | exact (unhide HB1).alloc (unhide HB1).size _ | exact ((unhide HB1).alloc (unhide HB1).size _).drew)).mono ?_; rintro e w2 ⟨bx, rfl, hx, hb2⟩; have hB1 := (unhide HB1).alloc (unhide HB1).size (.cells #[.int .i64 ksp, .string knm] 123); have hb2' : Below (w1.alloc (.cells #[.int .i64 ksp, .string knm] 123)).heap.size (w1.alloc (.cells #[.int .i64 ksp, .string knm] 123)) w2 := ⟨hb2.os, hb2.tape, hb2.output, hb2.size, hb2.block⟩; have HB2 := hide (hB1.trans (hb2'.mono hB1.size)); have HX := hide (hx.wide (G := fun k => w.heap.size ≤ k) (fun k hk => Nat.le_trans hB1.size hk.1)); have c2 := (unhide HC) w2 (unhide HB2); clear hx hb2 hb2' hB1)
    | (go_at_call 69; refine ((unhide HPE) _ bx (by first | exact unhide HB2 | exact (unhide HB2).drew) (by first | exact unhide HX)).mono ?_; rintro e w6 ⟨rfl, hu, hc6⟩; have HUL := hide hu; have HC6 := hide hc6; clear hu hc6))
  all_goals go_wp2
  all_goals go_ret
  all_goals exact ⟨rfl, unhide HUL⟩
end
end Go.Proofs.YtkakncngkmoegaaGreat
