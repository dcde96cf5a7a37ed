/-
  Package active: a list made; a marker; the entries behind the last marker cleared; what stands at a place.
-/
import Derived.Test.YtabdgmcajndgbaaSBas
namespace Go.Proofs.Ytabdgmcajndgbaa
open Go.RowKit Go.Sort

/-- As the row's own scans, told without places in memory. -/
def scanE (x : EntM) (es : List EntM) : Nat → Int × Int → Int × Int
  | 0, s => s
  | i + 1, s => match es[i]? with
    | some y => if y.node = -1 then s else scanE x es i (if alikeM x y = true then ((i : Int), s.2 + 1) else s)
    | none => s
def lastE (nm : ByteArray) (es : List EntM) : Nat → Int
  | 0 => -1
  | i + 1 => match es[i]? with
    | some y => if y.node = -1 then -1 else if kinB y.sp 0 y.nm nm = true then y.node else lastE nm es i
    | none => -1
theorem scanP_E {es : List EntM} {ps : List Nat} (hl : ps.length = es.length) (x : EntM) : ∀ (n : Nat) (s : Int × Int), n ≤ es.length → (behN es ps n).foldl (fun s y => if alikeM x y.x = true then ((y.i : Int), s.2 + 1) else s) s = scanE x es n s
  | 0, s, _ => rfl
  | i + 1, s, h => by
    obtain ⟨y, hy⟩ : ∃ y, es[i]? = some y := ⟨_, List.getElem?_eq_getElem (by omega)⟩
    obtain ⟨b, hb⟩ : ∃ b, ps[i]? = some b := ⟨_, List.getElem?_eq_getElem (by omega)⟩
    rw [behN_succ hy hb, scanE, hy]
    by_cases e : y.node = -1
    · simp only [e, if_true]; rfl
    · simp only [e, if_false, List.foldl_cons]
      exact scanP_E hl x i _ (by omega)
theorem lastP_E {es : List EntM} {ps : List Nat} (hl : ps.length = es.length) (nm : ByteArray) : ∀ (n : Nat), n ≤ es.length → lastP nm (behN es ps n) = lastE nm es n
  | 0, _ => rfl
  | i + 1, h => by
    obtain ⟨y, hy⟩ : ∃ y, es[i]? = some y := ⟨_, List.getElem?_eq_getElem (by omega)⟩
    obtain ⟨b, hb⟩ : ∃ b, ps[i]? = some b := ⟨_, List.getElem?_eq_getElem (by omega)⟩
    rw [behN_succ hy hb, lastE, hy]
    by_cases e : y.node = -1
    · simp only [e, if_true]; rfl
    · simp only [e, if_false, lastP]
      rw [lastP_E hl nm i (by omega)]
def surE (x : EntM) (es : List EntM) : Int := if (scanE x es es.length (-1, 0)).2 < 3 then -1 else (scanE x es es.length (-1, 0)).1
theorem surP_E {es : List EntM} {ps : List Nat} (hl : ps.length = es.length) (x : EntM) : surP x (behN es ps es.length) = surE x es := by
  unfold surP surE scanP
  rw [scanP_E hl x es.length _ (Nat.le_refl _)]
theorem scanE_lt (x : EntM) (es : List EntM) : ∀ (n : Nat) (s : Int × Int), n ≤ es.length → -1 ≤ s.1 ∧ s.1 < (es.length : Int) → -1 ≤ (scanE x es n s).1 ∧ (scanE x es n s).1 < (es.length : Int)
  | 0, s, _, h => h
  | i + 1, s, hn, h => by
    unfold scanE
    split
    · split
      · exact h
      · refine scanE_lt x es i _ (by omega) ?_
        split
        · simp; omega
        · exact h
    · exact h
theorem surE_lt (x : EntM) (es : List EntM) : -1 ≤ surE x es ∧ (surE x es < (es.length : Int) ∨ surE x es = -1) := by
  unfold surE
  split
  · exact ⟨by omega, .inr rfl⟩
  · by_cases h0 : es.length = 0
    · rw [h0]; exact ⟨by simp [scanE], .inr (by simp [scanE])⟩
    · have := scanE_lt x es es.length (-1, 0) (Nat.le_refl _) ⟨by omega, by simp; omega⟩
      exact ⟨this.1, .inl this.2⟩

def delE (es : List EntM) (i : Int) : List EntM := if 0 ≤ i then es.take i.toNat ++ es.drop (i.toNat + 1) else es
theorem lastM_lt (es : List EntM) : ∀ n, -1 ≤ lastM es n ∧ lastM es n < (n : Int)
  | 0 => by simp [lastM]
  | n + 1 => by
    have ih := lastM_lt es n
    unfold lastM
    split
    · split <;> omega
    · omega
/-- How many entries Clear leaves. -/
def leftN (es : List EntM) : Nat := (lastM es es.length).toNat

theorem UpdW.of {w w4 w' : World} {base bW : Nat} {F G : Nat → Prop} {es : List EntM} (hM : Mod F w w4) (hG : ∀ k, G k → F k ∨ w.heap.size ≤ k) (hu : UpdW G w4 w' base bW es) : UpdW F w w' base bW es := by
  obtain ⟨F', h1, h2, h3⟩ := hu
  refine ⟨F', h1, mod_then hM h2 hG, fun k hk => ?_⟩
  rcases h3 k hk with e | e
  · exact hG k e
  · exact .inr (Nat.le_trans hM.size e)
/-- A new entry put in. -/
theorem put_gen {w : World} {base bW bx : Nat} {F FX : Nat → Prop} {v : Value} {ps : List Nat} {es : List EntM} {x : EntM} (h : RowM w base bW F v ps es) (hx : EntIn w FX bx x) (hFX : ∀ k, FX k → base ≤ k ∧ k < w.heap.size) (hn : ¬ F bx) (i : Nat) (hi : i ≤ es.length) (hl : es.length < 1000000000000) :
    Calls Try.prog 52 #[.pointer (some ⟨bW, 0, none⟩), .int .i64 i, ptrV bx] w fun e w' => e = .returned (.tuple #[]) ∧ UpdW (fun k => F k ∨ FX k) w w' base bW (es.take i ++ x :: es.drop i) := by
  refine rput_any (h.wide (fun k hk => .inl hk) (fun k hk => hk.elim (h.lt k) (hFX k))) (hx.wide (fun k hk => .inr hk)) (fun hm => ?_) i hi hl
  obtain ⟨j, hj⟩ := List.mem_iff_getElem?.1 hm
  obtain ⟨y, hy⟩ : ∃ y, es[j]? = some y := ⟨_, List.getElem?_eq_getElem (by rw [← h.len]; exact (List.getElem?_eq_some_iff.1 hj).1)⟩
  exact hn (h.ents j bx y hj hy).fb

section
variable {w : World} {base baseA bL bA bW : Nat} {ks : List Key} {F FA FL : Nat → Prop} {v : Value} {ps : List Nat} {es : List EntM}

set_option maxHeartbeats 1000000 in
theorem lnew_any (ha : ArK w baseA bA ks FA) (hb : base ≤ w.heap.size) : Calls Try.prog 5 #[.pointer (some ⟨bA, 0, none⟩)] w fun e w' => ∃ bL F, e = .returned (.tuple #[.pointer (some ⟨bL, 0, none⟩), .int .i64 0]) ∧ LiS w' base bL bA [] F ∧ Below w.heap.size w w' ∧ ∀ k, F k → w.heap.size ≤ k := by
  have HL := hide (len_k ha)
  have hm := ha.most
  have hz : ((ks.length : Int) == 0) = false := beq_eq_false_iff_ne.2 (by omega)
  have HB := hide hb
  clear ha hm hb
  go_enter Try.func5, Try.ntmps5
  go_wp2_with (go_at_call 19; refine (unhide HL).mono ?_; rintro e w1 ⟨rfl, rfl⟩)
  go_ret2
  have hB := below_two w (.cells #[.slice none 0 0] 63) (.cells #[.pointer (some ⟨bA, 0, none⟩), .pointer (some ⟨w.heap.size, 0, none⟩)] 65)
  refine ⟨w.heap.size + 1, fun k => k = w.heap.size + 1 ∨ k = w.heap.size, rfl, ⟨w.heap.size, .slice none 0 0, [], fun k => k = w.heap.size, ⟨heap_alloc2_new _ _ _, ⟨heap_alloc2_old _ _ _, World.ownsRow_nil _ _ _ _, rfl, List.nodup_nil, fun i b x e => by simp at e, rfl, fun k e => by simp [Value.ownBlock] at e, fun k e => ?_⟩, by omega, by have := unhide HB; omega⟩, fun k => Iff.rfl⟩, hB, fun k e => by omega⟩
  have := unhide HB
  subst e
  simp
  omega

set_option maxHeartbeats 2000000 in
theorem lmark_any (h : LiM w base bL bA bW F v ps es) (hF : ∀ k, FL k ↔ (k = bL ∨ F k)) (hl : es.length < 1000000000000) : Calls Try.prog 23 #[.pointer (some ⟨bL, 0, none⟩)] w fun e w' => e = .returned (.int .i64 0) ∧ UpdL FL w w' base bL bA (es ++ [mark0]) := by
  obtain ⟨h0, h1⟩ := h.cells
  have HM := hide (lmade_any h)
  have HSZ := hide (fun (W : World) (hb : Below w.heap.size w W) => rsize_any (h.below hb).row)
  have HP : Hid (∀ w2, Below w.heap.size w w2 → EntIn w2 (fun k => w.heap.size ≤ k ∧ k < w2.heap.size) w.heap.size mark0 → Calls Try.prog 52 #[.pointer (some ⟨bW, 0, none⟩), .int .i64 es.length, .pointer (some ⟨w.heap.size, 0, none⟩)] w2 fun e w' => e = .returned (.tuple #[]) ∧ UpdL FL w w' base bL bA (es ++ [mark0]) ∧ w'.cell? ⟨bL, 1, none⟩ = some (.pointer (some ⟨bW, 0, none⟩))) := hide (fun w2 hb hx => by
    have hlo := h.lo
    have hlt := lt_of_block h.box
    refine (put_gen (h.below hb).row hx (fun k hk => ⟨by omega, hk.2⟩) (fun e => by have := h.row.lt _ e; omega) es.length (Nat.le_refl _) hl).mono ?_
    rintro e w' ⟨rfl, hu⟩
    rw [List.take_length, List.drop_length] at hu
    have hu2 := UpdW.of (Mod.of_below (F := F) hb) (fun k hk => hk.imp id (fun e => e.1)) hu
    refine ⟨rfl, h.upd hF hu2, ?_⟩
    obtain ⟨_, _, h2, _⟩ := hu2
    exact cell_of_row _ _ 1 _ _ _ ((h2.block bL hlt h.nl).trans h.box))
  have HC : Hid (∀ W, Below w.heap.size w W → W.cell? ⟨bL, 1, none⟩ = some (.pointer (some ⟨bW, 0, none⟩))) := hide (fun W hb => ((h.below hb).cells).2)
  clear h hF hl
  go_enter Try.func23, Try.ntmps23
  go_wp2_with (first | (go_at_call 34; refine (unhide HM).mono ?_; rintro e w1 ⟨rfl, rfl⟩))
  go_region_held3 (fun W' => W'.cell? ⟨bL, 1, none⟩ = some (.pointer (some ⟨bW, 0, none⟩))) (first | exact unhide HC3 | exact (unhide HC) w2 (unhide HB2) | exact (unhide HC) w (Below.refl _ _)) (first
    | (go_at_call 35; refine ((unhide HSZ) _ (by first | exact Below.refl _ _ | exact (Below.refl _ _).drew)).mono ?_; rintro e w1 ⟨rfl, rfl⟩)
    | (go_at_call 56; refine (newMarker_any _).mono ?_; rintro e w2 ⟨rfl, hx, hb⟩; have HX := hide hx; have HB2 := hide (show Below w.heap.size w w2 from ⟨hb.os, hb.tape, hb.output, hb.size, hb.block⟩); clear hx hb)
    | (go_at_call 52; refine ((unhide HP) _ (by first | exact unhide HB2 | exact (unhide HB2).drew) (by exact unhide HX)).mono ?_; rintro e w3 ⟨rfl, hu, hc3⟩; have HU := hide hu; have HC3 := hide hc3; clear hu hc3))
  all_goals go_wp2
  all_goals go_ret
  all_goals exact ⟨rfl, unhide HU⟩

set_option maxHeartbeats 2000000 in
theorem lclear_any (h : LiM w base bL bA bW F v ps es) (hF : ∀ k, FL k ↔ (k = bL ∨ F k)) (hl : es.length < 1000000000000) : Calls Try.prog 24 #[.pointer (some ⟨bL, 0, none⟩)] w fun e w' => e = .returned (.int .i64 ((es.length : Int) - (leftN es : Int))) ∧ UpdL FL w w' base bL bA (es.take (leftN es)) := by
  obtain ⟨h0, h1⟩ := h.cells
  have HM := hide (lmade_any h)
  have HSZ := hide (rsize_any h.row)
  have HLM := hide (lastMarker_any h.row hl)
  have hlt := lastM_lt es es.length
  have hmax : max (lastM es es.length) 0 = ((leftN es : Nat) : Int) := by unfold leftN; omega
  have hle : leftN es ≤ es.length := by unfold leftN; omega
  have HCU : Hid (Calls Try.prog 58 #[.pointer (some ⟨bW, 0, none⟩), .int .i64 (leftN es : Int)] w fun e w' => e = .returned (.tuple #[]) ∧ UpdL FL w w' base bL bA (es.take (leftN es))) := hide (by
    refine (rcut_any h.row (leftN es) hle).mono ?_
    rintro e w' ⟨rfl, hu⟩
    exact ⟨rfl, h.upd hF hu⟩)
  have hlz : (es.length : Int) < 1000000000000 := by omega
  have hwz : IntKind.i64.wrap ((es.length : Int) - ((leftN es : Nat) : Int)) = (es.length : Int) - ((leftN es : Nat) : Int) := by rw [IntKind.wrap_i64]; omega
  generalize leftN es = m at *
  generalize lastM es es.length = lm at *
  clear h hF hl hlt hlz
  go_enter Try.func24, Try.ntmps24
  go_wp2_with (first | (go_at_call 34; refine (unhide HM).mono ?_; rintro e w1 ⟨rfl, rfl⟩) | (go_at_call 57; refine (unhide HLM).mono ?_; rintro e w1 ⟨rfl, rfl⟩) | (go_at_call 35; refine (unhide HSZ).mono ?_; rintro e w1 ⟨rfl, rfl⟩) | (go_at_call 58; refine (unhide HCU).mono ?_; rintro e w2 ⟨rfl, hu⟩; have HU := hide hu; clear hu))
  go_ret
  exact ⟨rfl, unhide HU⟩
end
end Go.Proofs.Ytabdgmcajndgbaa
