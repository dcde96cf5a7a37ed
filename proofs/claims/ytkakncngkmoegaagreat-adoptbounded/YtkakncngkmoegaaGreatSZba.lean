/-
  Package active: the last element of a name; which entry goes if another comes. Package active: which entry goes if another comes. Package active: what an element is called, or why a number can't come to have an entry.
-/
import Derived.Test.YtkakncngkmoegaaGreatSZaz
import Derived.Test.YtkakncngkmoegaaGreatSZai
namespace Go.Proofs.YtkakncngkmoegaaGreat
open Go.RowKit Go.Sort Go.Shelf
attribute [local go_sem] Oper.semAt_some

theorem behind_in (n : Nat) (bW : Nat) (w : World) :
    CallsIn Fence.wide n Tryz.prog 115 #[.pointer (some ⟨bW, 0, none⟩)] w fun e w' => e = .returned (.func (.func 148) #[] #[.pointer (some ⟨w.heap.size, 0, none⟩)]) ∧ w' = w.alloc (.cells #[.pointer (some ⟨bW, 0, none⟩)] 117) := by
  refine callsIn_of_wp Tryz.func115 rfl trivial ?_ rfl
  simp only [Tryz.ntmps115, List.size_toArray, List.length_cons, List.length_nil, Nat.reduceAdd, Nat.reduceSub, Array.replicate_succ, Array.replicate_zero, List.push_toArray, List.append_toArray, List.nil_append, List.cons_append]
  gi_wp2
  go_ret
  exact ⟨rfl, rfl⟩

theorem beh_stops {base bW : Nat} {F : Nat → Prop} {v : Value} {ps : List Nat} {es : List EntM} (n : Nat) (hn : 1 ≤ n) (Ba : Nat) (P : Nat → Prop) (hPf : ∀ k, F k → P k) (hPa : P Ba)
    (w : World) (hBa : w.heap[Ba]? = some (.cells #[.pointer (some ⟨bW, 0, none⟩)] 117 (0, 0))) (har : RowMAc w base bW F v ps es) (hl : es.length < 1000000000000) :
    SeqStopsK Fence.wide n Tryz.prog 148 #[.pointer (some ⟨Ba, 0, none⟩)] (fun x : BP es ps => #[Value.int .i64 (x.i : Int), ptrV x.b]) (KeepPAc P) (fun ys => ys = behN es ps es.length) (fun pre => pre <+: behN es ps es.length) (behN es ps es.length).length w := fun l J Jx W hW _ _ hY h0 =>
  beh1_in n hn l Ba P hPf hPa J Jx hY W ((hW.block Ba (lt_of_block hBa)).trans hBa) (har.below hW) hl h0

/-- The first of some entries that is of HTML and of a name. -/
def lastP {es : List EntM} {ps : List Nat} (nm : ByteArray) : List (BP es ps) → Int
  | [] => -1
  | y :: r => if kinB y.x.sp 0 y.x.nm nm = true then y.x.node else lastP nm r
theorem lastP_none {es : List EntM} {ps : List Nat} {nm : ByteArray} : ∀ {l : List (BP es ps)}, (∀ y ∈ l, kinB y.x.sp 0 y.x.nm nm = false) → lastP nm l = -1
  | [], _ => rfl
  | y :: r, h => by
    unfold lastP
    rw [if_neg (by rw [h y (by simp)]; decide)]
    exact lastP_none (fun z hz => h z (List.mem_cons_of_mem _ hz))
theorem lastP_some {es : List EntM} {ps : List Nat} {nm : ByteArray} : ∀ {l : List (BP es ps)} {y : BP es ps} {r : List (BP es ps)}, (∀ z ∈ l, kinB z.x.sp 0 z.x.nm nm = false) → kinB y.x.sp 0 y.x.nm nm = true → lastP nm (l ++ y :: r) = y.x.node
  | [], y, r, _, h => by simp only [List.nil_append, lastP]; rw [if_pos h]
  | z :: l, y, r, h, hy => by
    rw [List.cons_append, lastP, if_neg (by rw [h z (by simp)]; decide)]
    exact lastP_some (fun u hu => h u (List.mem_cons_of_mem _ hu)) hy

set_option maxRecDepth 100000 in
set_option maxHeartbeats 2000000 in
theorem llast_in {w : World} {base bL bA bW : Nat} {F : Nat → Prop} {v : Value} {ps : List Nat} {es : List EntM} (h : LiM w base bL bA bW F v ps es) (hl : es.length < 1000000000000) (nm : ByteArray) :
    CallsIn Fence.wide 4 Tryz.prog 88 #[.pointer (some ⟨bL, 0, none⟩), .string nm] w fun e w' => e = .returned (.int .i64 (lastP nm (behN es ps es.length))) ∧ Below w.heap.size w w' := by
  have hb2 := below_two w (.cells #[.string nm] 9) (.cells #[.int .i64 0] 3)
  have HM := hide (lmade_any (h.below hb2))
  have HH := hide h
  have HL := hide hl
  obtain ⟨h0, h1⟩ := (h.below hb2).cells
  clear h hl hb2
  refine callsIn_of_wp_marks Tryz.func88 rfl trivial ?_ rfl
  simp only [Tryz.ntmps88, List.size_toArray, List.length_cons, List.length_nil, Nat.reduceAdd, Nat.reduceSub, Array.replicate_succ, Array.replicate_zero, List.push_toArray, List.append_toArray, List.nil_append, List.cons_append]
  gi_wp2_with fail
  refine ⟨trivial, (callsIn_wide.2 (unhide HM)).mono ?_⟩
  rintro e w' ⟨rfl, rfl⟩
  gi_wp2_with fail
  refine ⟨trivial, (behind_in _ _ _).mono ?_⟩
  rintro e w' ⟨rfl, rfl⟩
  gi_wp2_with fail
  have c0 := cell_new_lAc w (.string nm) 9
  have c1 := cell_new_lAc (w.alloc (.cells #[.string nm] 9)) (.int .i64 0) 3
  simp only [World.size_alloc] at c1
  have hBa : (((w.alloc (.cells #[.string nm] 9)).alloc (.cells #[.int .i64 0] 3)).alloc (.cells #[.pointer (some ⟨bW, 0, none⟩)] 117)).heap[w.heap.size + 1 + 1]? = some (.cells #[.pointer (some ⟨bW, 0, none⟩)] 117 (0, 0)) := last_block _ _ _ (by simp)
  have hB0 : Below w.heap.size w (((w.alloc (.cells #[.string nm] 9)).alloc (.cells #[.int .i64 0] 3)).alloc (.cells #[.pointer (some ⟨bW, 0, none⟩)] 117)) := (((Below.refl _ w).alloc (Nat.le_refl _) _).alloc (by simp) _).alloc (by simp; omega) _
  have har := (unhide HH).row.below hB0
  have hPf : ∀ k, F k → k < w.heap.size ∨ k = w.heap.size + 1 + 1 := fun k hk => .inl ((unhide HH).row.lt k hk).2
  have hll := unhide HL
  refine wpIn_rangeFunc_ownF (w0 := (((w.alloc (.cells #[.string nm] 9)).alloc (.cells #[.int .i64 0] 3)).alloc (.cells #[.pointer (some ⟨bW, 0, none⟩)] 117))) rfl (by omega) (gf := 148) (lb := #[.pointer (some ⟨w.heap.size + 1 + 1, 0, none⟩)]) rfl trivial (enters_of Tryz.func148 (by kernel_rfl) rfl)
    (beh_stops 3 (by omega) (w.heap.size + 1 + 1) (fun k => k < w.heap.size ∨ k = w.heap.size + 1 + 1) hPf (.inr rfl) _ hBa har hll) keepP_tAc (keepP_bAc (by intro k hk; simp; omega)) (Below.refl _ _) (fun _ => rfl)
    (fun pre W => ((∀ y ∈ pre, kinB y.x.sp 0 y.x.nm nm = false) ∧ W.cell? ⟨w.heap.size, 0, none⟩ = some (.string nm) ∧ W.cell? ⟨w.heap.size + 1, 0, none⟩ = some (.int .i64 0) ∧ W.frozen? ⟨w.heap.size + 1, 0, none⟩ = false) ∧ Below w.heap.size w W)
    (fun c pre W => (c = .ret ∧ (∃ l y, pre = l ++ [y] ∧ (∀ z ∈ l, kinB z.x.sp 0 z.x.nm nm = false) ∧ kinB y.x.sp 0 y.x.nm nm = true ∧ W.cell? ⟨w.heap.size + 1, 0, none⟩ = some (.int .i64 y.x.node))) ∧ Below w.heap.size w W)
    (OwnFrom.and (Own.from (fun s A B row hs hg hr => ⟨hs.1, cell_kept hs.2.1 hg hr, cell_kept hs.2.2.1 hg hr, (frozen_kept hs.2.2.1 hg hr).trans hs.2.2.2⟩) _) (ownFrom_below (Nat.le_refl _) (by simp; omega)))
    (fun c => OwnFrom.and (Own.from (fun s A B row hs hg hr => by
      obtain ⟨e, l, y, h1, h2, h3, h4⟩ := hs
      exact ⟨e, l, y, h1, h2, h3, cell_kept h4 hg hr⟩) _) (ownFrom_below (Nat.le_refl _) (by simp; omega)))
    ⟨⟨by simp, cell_alloc_lAc _ (cell_alloc_lAc _ c0.1), cell_alloc_lAc _ c1.1, frozen_alloc_lAc _ c1.1 c1.2⟩, hB0⟩
    (fun x => { tmps := #[.pointer (some ⟨bL, 0, none⟩), .string nm, undef, .pointer (some ⟨w.heap.size, 0, none⟩), .pointer (some ⟨w.heap.size + 1, 0, none⟩), undef, ptrV x.b, .pointer (some ⟨bL, 0, none⟩), .bool true, .bool false, .pointer (some ⟨bL, 0, none⟩), .pointer (some ⟨bL, 0, none⟩), .pointer (some ⟨bL, 1, none⟩), .pointer (some ⟨bW, 0, none⟩), .func (.func 148) #[] #[.pointer (some ⟨w.heap.size + 1 + 1, 0, none⟩)], .int .i64 (x.i : Int), ptrV x.b, undef, undef, undef, undef, undef, undef, undef, undef, undef, undef, undef], defers := [] }) ?assign ?body ?done ?stop
  case assign =>
    intro l x W K hK
    gi_wp2
    exact hK
  case body =>
    rintro l pre x W ⟨⟨hp, hcw, hcr, hfr⟩, hB⟩ _
    clear c0 c1 hBa hB0 hPf har hll h0 h1
    have he := ((unhide HH).row.below hB).ents x.i x.b x.x x.hb x.hx
    obtain ⟨ao, ac, so, sc, hblk, _⟩ := he.lies
    have d0 : W.cell? ⟨x.b, 0, none⟩ = some (.int .i64 x.x.node) := cell_of_row _ _ 0 _ _ _ hblk
    have d1 : W.cell? ⟨x.b, 1, none⟩ = some (.int .i64 x.x.sp) := cell_of_row _ _ 1 _ _ _ hblk
    have d2 : W.cell? ⟨x.b, 2, none⟩ = some (.string x.x.nm) := cell_of_row _ _ 2 _ _ _ hblk
    have hgk := guardK
    have hk := fun W => eqlKin x.x.sp 0 x.x.nm nm W
    unfold ptrV
    clear he hblk
    cases hkk : kinB x.x.sp 0 x.x.nm nm with
    | true =>
      rw [hkk] at hk
      gi_wp2
      gi_region
      all_goals gi_wp2
      all_goals exact ⟨(KeepsOthers.drew _).trans (KeepsOthers.setCell _ _ _), ⟨rfl, pre, x, rfl, hp, hkk, World.cell?_setCell_same' W.drew _ _ (by rw [show W.drew.cell? ⟨w.heap.size + 1, 0, none⟩ = _ from hcr]; rfl)⟩, hB.drew.setCell (p := ⟨w.heap.size + 1, 0, none⟩) (by simp) _⟩
    | false =>
      rw [hkk] at hk
      gi_wp2
      gi_region
      all_goals gi_wp2
      all_goals exact ⟨KeepsOthers.drew _, fun _ _ => rfl, ⟨fun y hy => (List.mem_append.1 hy).elim (hp y) (fun e => by simp at e; subst e; exact hkk), hcw, hcr, hfr⟩, hB.drew⟩
  case done =>
    rintro D ys W hD rfl ⟨⟨hne, _, hcr, hfr⟩, hB⟩ hK
    clear c0 c1 hBa hB0 hPf har hll h0 h1
    gi_wp2
    have hK' := (KeepsOthers.setCell W ⟨w.heap.size + 1, 0, none⟩ (.int .i64 (-1))).same D _ hK rfl
    refine ⟨by simp, .inl ⟨_, _, rfl, run_takeDeferred hK', ?_⟩⟩
    have hc5 := cell_kept (World.cell?_setCell_same' W ⟨w.heap.size + 1, 0, none⟩ (.int .i64 (-1)) (by rw [hcr]; rfl)) (grownBy_putObj' _ D (.deferred none)) (fun r e => by cases e; exact ⟨_, hK', rfl⟩)
    refine ⟨.int .i64 (-1), ?_, by rw [lastP_none hne], (hB.setCell (p := ⟨w.heap.size + 1, 0, none⟩) (by simp) _).trans (belowK_b (w := w) (Nat.le_refl _) _ D _ _ (by simp at hD; omega) hK' rfl rfl)⟩
    simp [results, Tryz.results88, go_sem, hc5]
  case stop =>
    rintro D c pre W hD hpre ⟨⟨rfl, l, y, rfl, hl1, hl2, hcr⟩, hB⟩ hK
    clear c0 c1 hBa hB0 hPf har hll h0 h1
    gi_wp2
    refine ⟨by simp, .inl ⟨_, _, rfl, run_takeDeferred hK, ?_⟩⟩
    have hc5 := cell_kept hcr (grownBy_putObj' _ D (.deferred none)) (fun r e => by cases e; exact ⟨_, hK, rfl⟩)
    have hyes : lastP nm (behN es ps es.length) = y.x.node := by
      obtain ⟨t, ht⟩ := hpre
      rw [← ht, List.append_assoc]
      exact lastP_some hl1 hl2
    refine ⟨.int .i64 y.x.node, ?_, by rw [hyes], hB.trans (belowK_b (w := w) (Nat.le_refl _) W D _ _ (by simp at hD; omega) hK rfl rfl)⟩
    simp [results, Tryz.results88, go_sem, hc5]

theorem llast_any {w : World} {base bL bA bW : Nat} {F : Nat → Prop} {v : Value} {ps : List Nat} {es : List EntM} (h : LiM w base bL bA bW F v ps es) (hl : es.length < 1000000000000) (nm : ByteArray) :
    Calls Tryz.prog 88 #[.pointer (some ⟨bL, 0, none⟩), .string nm] w fun e w' => e = .returned (.int .i64 (lastP nm (behN es ps es.length))) ∧ Below w.heap.size w w' := callsIn_wide.1 (llast_in h hl nm)
end Go.Proofs.YtkakncngkmoegaaGreat

namespace Go.Proofs.YtkakncngkmoegaaGreat
open Go.RowKit Go.Sort Go.Shelf
attribute [local go_sem] Oper.semAt_some

/-- Of some entries: the last that is alike to one, and how many are. -/
def scanP {es : List EntM} {ps : List Nat} (x : EntM) (l : List (BP es ps)) : Int × Int := l.foldl (fun s y => if alikeM x y.x = true then ((y.i : Int), s.2 + 1) else s) (-1, 0)
theorem scanP_snoc {es : List EntM} {ps : List Nat} (x : EntM) (l : List (BP es ps)) (y : BP es ps) : scanP x (l ++ [y]) = if alikeM x y.x = true then ((y.i : Int), (scanP x l).2 + 1) else scanP x l := by
  unfold scanP
  rw [List.foldl_append]
  rfl
theorem scanP_le {es : List EntM} {ps : List Nat} (x : EntM) (l : List (BP es ps)) : 0 ≤ (scanP x l).2 ∧ (scanP x l).2 ≤ (l.length : Int) := by
  have key : ∀ (n : Nat) (l : List (BP es ps)), l.length = n → 0 ≤ (scanP x l).2 ∧ (scanP x l).2 ≤ (l.length : Int) := by
    intro n
    induction n with
    | zero =>
      intro l hl
      obtain rfl : l = [] := List.eq_nil_of_length_eq_zero hl
      simp [scanP]
    | succ n ih =>
      intro l hl
      have hne : l ≠ [] := by intro e; subst e; simp at hl
      have e := List.dropLast_concat_getLast hne
      have ih2 := ih l.dropLast (by simp; omega)
      rw [← e, scanP_snoc, List.length_append]
      split <;> simp at ih2 ⊢ <;> omega
  exact key _ l rfl
def surP {es : List EntM} {ps : List Nat} (x : EntM) (l : List (BP es ps)) : Int := if (scanP x l).2 < 3 then -1 else (scanP x l).1

theorem behN_len (es : List EntM) (ps : List Nat) : ∀ n, (behN es ps n).length ≤ n
  | 0 => by simp [behN]
  | n + 1 => by
    have ih := behN_len es ps n
    conv => lhs; unfold behN
    split
    · split
      · simp
      · simp; omega
    · simp

set_option maxRecDepth 100000 in
set_option maxHeartbeats 4000000 in
theorem surplus_in {w : World} {base bW bx : Nat} {F FX : Nat → Prop} {v : Value} {ps : List Nat} {es : List EntM} {x : EntM} (h : RowMAc w base bW F v ps es) (hx : EntIn w FX bx x) (hfx : ∀ k, FX k → k < w.heap.size) (hl : es.length < 1000000000000) :
    CallsIn Fence.wide 4 Tryz.prog 67 #[.pointer (some ⟨bW, 0, none⟩), ptrV bx] w fun e w' => e = .returned (.int .i64 (surP x (behN es ps es.length))) ∧ Below w.heap.size w w' := by
  have HH := hide h
  have HX := hide hx
  have HFX := hide hfx
  have HL := hide hl
  clear h hx hfx hl
  unfold ptrV
  refine callsIn_of_wp_marks Tryz.func67 rfl trivial ?_ rfl
  simp only [Tryz.ntmps67, List.size_toArray, List.length_cons, List.length_nil, Nat.reduceAdd, Nat.reduceSub, Array.replicate_succ, Array.replicate_zero, List.push_toArray, List.append_toArray, List.nil_append, List.cons_append]
  gi_wp2_with fail
  refine ⟨trivial, (behind_in _ _ _).mono ?_⟩
  rintro e w' ⟨rfl, rfl⟩
  gi_wp2_with fail
  have c0 := Boxed.new w 120 (.pointer (some ⟨bx, 0, none⟩))
  have c1 := Boxed.new (w.alloc (.cells #[.pointer (some ⟨bx, 0, none⟩)] 120)) 3 (.int .i64 (-1))
  have c2 := Boxed.new ((w.alloc (.cells #[.pointer (some ⟨bx, 0, none⟩)] 120)).alloc (.cells #[.int .i64 (-1)] 3)) 3 (.int .i64 0)
  simp only [World.size_alloc] at c1 c2
  have hBa : ((((w.alloc (.cells #[.pointer (some ⟨bx, 0, none⟩)] 120)).alloc (.cells #[.int .i64 (-1)] 3)).alloc (.cells #[.int .i64 0] 3)).alloc (.cells #[.pointer (some ⟨bW, 0, none⟩)] 117)).heap[w.heap.size + 1 + 1 + 1]? = some (.cells #[.pointer (some ⟨bW, 0, none⟩)] 117 (0, 0)) := last_block _ _ _ (by simp)
  have hB0 : Below w.heap.size w ((((w.alloc (.cells #[.pointer (some ⟨bx, 0, none⟩)] 120)).alloc (.cells #[.int .i64 (-1)] 3)).alloc (.cells #[.int .i64 0] 3)).alloc (.cells #[.pointer (some ⟨bW, 0, none⟩)] 117)) := ((((Below.refl _ w).alloc (Nat.le_refl _) _).alloc (by simp) _).alloc (by simp; omega) _).alloc (by simp; omega) _
  have har := (unhide HH).below hB0
  have hPf : ∀ k, F k → k < w.heap.size ∨ k = w.heap.size + 1 + 1 + 1 := fun k hk => .inl ((unhide HH).lt k hk).2
  have hll := unhide HL
  have hnl := behN_len es ps es.length
  have HNL := hide hnl
  clear hnl
  refine wpIn_rangeFunc_ownF (w0 := ((((w.alloc (.cells #[.pointer (some ⟨bx, 0, none⟩)] 120)).alloc (.cells #[.int .i64 (-1)] 3)).alloc (.cells #[.int .i64 0] 3)).alloc (.cells #[.pointer (some ⟨bW, 0, none⟩)] 117))) rfl (by omega) (gf := 148) (lb := #[.pointer (some ⟨w.heap.size + 1 + 1 + 1, 0, none⟩)]) rfl trivial (enters_of Tryz.func148 (by kernel_rfl) rfl)
    (beh_stops 3 (by omega) (w.heap.size + 1 + 1 + 1) (fun k => k < w.heap.size ∨ k = w.heap.size + 1 + 1 + 1) hPf (.inr rfl) _ hBa har hll) keepP_tAc (keepP_bAc (by intro k hk; simp; omega)) (Below.refl _ _) (fun _ => rfl)
    (fun pre W => ((Boxed W w.heap.size 120 (.pointer (some ⟨bx, 0, none⟩)) ∧ Boxed W (w.heap.size + 1) 3 (.int .i64 (scanP x pre).1)) ∧ Boxed W (w.heap.size + 1 + 1) 3 (.int .i64 (scanP x pre).2)) ∧ Below w.heap.size w W)
    (fun _ _ _ => False)
    (OwnFrom.and (OwnFrom.and (OwnFrom.and (Own.from (boxed_own w.heap.size 120 (fun _ => .pointer (some ⟨bx, 0, none⟩))) _) (Own.from (boxed_own (w.heap.size + 1) 3 (fun pre => .int .i64 (scanP x pre).1)) _)) (Own.from (boxed_own (w.heap.size + 1 + 1) 3 (fun pre => .int .i64 (scanP x pre).2)) _)) (ownFrom_below (Nat.le_refl _) (by simp; omega)))
    (fun _ _ _ _ _ hs _ _ => hs)
    ⟨⟨⟨((c0.alloc _).alloc _).alloc _, (c1.alloc _).alloc _⟩, c2.alloc _⟩, hB0⟩
    (fun y => { tmps := #[.pointer (some ⟨bW, 0, none⟩), .pointer (some ⟨bx, 0, none⟩), undef, .pointer (some ⟨w.heap.size, 0, none⟩), .int .i64 0, .pointer (some ⟨w.heap.size + 1, 0, none⟩), .pointer (some ⟨w.heap.size + 1 + 1, 0, none⟩), .int .i64 (y.i : Int), ptrV y.b, .pointer (some ⟨bW, 0, none⟩), .func (.func 148) #[] #[.pointer (some ⟨w.heap.size + 1 + 1 + 1, 0, none⟩)], .int .i64 (y.i : Int), ptrV y.b, undef, undef, undef, undef, undef, undef, undef, undef, undef], defers := [] }) ?assign ?body ?done ?stop
  case assign =>
    intro l x W K hK
    gi_wp2
    exact hK
  case body =>
    rintro l pre y W ⟨⟨⟨bX, bE⟩, bN⟩, hB⟩ hpl
    have hcx := cell_of_one bX
    have hce := cell_of_one bE
    have hfe := free_of_one bE
    have hcn := cell_of_one bN
    have hfn := free_of_one bN
    have BX := hide bX
    have BE := hide bE
    have BN := hide bN
    clear bX bE bN
    clear c0 c1 c2 hBa hB0 hPf har
    have hsz := hB.size
    have he : EntIn W (fun k => F k ∨ FX k) y.b y.x := (((unhide HH).below hB).ents y.i y.b y.x y.hb y.hx).wide (fun k hk => .inl hk)
    have hex : EntIn W (fun k => F k ∨ FX k) bx x := ((unhide HX).mod (Mod.of_below (F := fun _ => False) hB) (fun _ _ e => e)).wide (fun k hk => .inr hk)
    have HA := hide (alike_any hex he)
    have hsl := scanP_le x pre
    have hn2 : (pre.length : Int) < 1000000000000 := by have := unhide HNL; omega
    have hwn : IntKind.i64.wrap ((scanP x pre).2 + 1) = (scanP x pre).2 + 1 := by rw [IntKind.wrap_i64]; omega
    have HS := hide (scanP_snoc x pre y)
    unfold ptrV
    clear he hex hsl hn2 hpl hll
    cases ha : alikeM x y.x with
    | true =>
      rw [ha] at HA HS
      rw [if_pos rfl] at HS
      clear ha
      gi_wp2_with fail
      refine ⟨trivial, (callsIn_wide.2 (unhide HA)).mono ?_⟩
      rintro e w1 ⟨rfl, q, rfl⟩
      gi_wp2
      have bX : (W.drewN q).heap[w.heap.size]? = some (.cells #[.pointer (some ⟨bx, 0, none⟩)] 120 (0, 0)) := unhide BX
      have bE : (W.drewN q).heap[w.heap.size + 1]? = some (.cells #[.int .i64 (scanP x pre).1] 3 (0, 0)) := unhide BE
      have bN : (W.drewN q).heap[w.heap.size + 1 + 1]? = some (.cells #[.int .i64 (scanP x pre).2] 3 (0, 0)) := unhide BN
      have oth : ∀ k, k ≠ w.heap.size + 1 → k ≠ w.heap.size + 1 + 1 → (((W.drewN q).setCell ⟨w.heap.size + 1, 0, none⟩ (.int .i64 (y.i : Int))).setCell ⟨w.heap.size + 1 + 1, 0, none⟩ (.int .i64 ((scanP x pre).2 + 1))).heap[k]? = W.heap[k]? := fun k h1 h2 => (Below.heap_setCell _ _ _ _ h2).trans (Below.heap_setCell _ _ _ _ h1)
      refine ⟨((show KeepsOthers W (W.drewN q) from ⟨Nat.le_refl _, fun _ _ h _ => h⟩).trans (KeepsOthers.setCell (W.drewN q) ⟨w.heap.size + 1, 0, none⟩ _)).trans (KeepsOthers.setCell _ _ _), fun k hk => oth k (by omega) (by omega), ⟨⟨(oth _ (by omega) (by omega)).trans (unhide BX), ?_⟩, ?_⟩, ((below_dnAc hB q).setCell (p := ⟨w.heap.size + 1, 0, none⟩) (by simp) _).setCell (p := ⟨w.heap.size + 1 + 1, 0, none⟩) (by simp; omega) _⟩
      · show _ = _
        rw [unhide HS]
        exact (Below.heap_setCell _ _ _ _ (by simp)).trans (heap_setCell_same _ _ _ _ _ _ bE)
      · show _ = _
        rw [unhide HS]
        exact heap_setCell_same _ _ _ _ _ _ ((Below.heap_setCell _ _ _ _ (by simp)).trans bN)
    | false =>
      rw [ha] at HA HS
      rw [if_neg (by decide)] at HS
      clear ha
      gi_wp2_with fail
      refine ⟨trivial, (callsIn_wide.2 (unhide HA)).mono ?_⟩
      rintro e w1 ⟨rfl, q, rfl⟩
      gi_wp2
      refine ⟨⟨Nat.le_refl _, fun _ _ h _ => h⟩, fun _ _ => rfl, ?_, below_dnAc hB q⟩
      rw [unhide HS]
      exact ⟨⟨unhide BX, unhide BE⟩, unhide BN⟩
  case done =>
    rintro D ys W hD rfl ⟨⟨⟨_, bE⟩, bN⟩, hB⟩ hK
    have hce := cell_of_one bE
    have hcn := cell_of_one bN
    clear bE bN
    clear c0 c1 c2 hBa hB0 hPf har hll
    generalize hT : scanP x (behN es ps es.length) = T at *
    have hsur : surP x (behN es ps es.length) = if T.2 < 3 then -1 else T.1 := by unfold surP; rw [hT]
    have HSU := hide hsur
    clear hsur hT
    by_cases h3 : T.2 < 3
    · rw [if_pos h3] at HSU
      gi_wp2
      refine ⟨by simp, .inl ⟨_, _, rfl, run_takeDeferred hK, ?_⟩⟩
      refine ⟨.int .i64 (-1), results_tmp Tryz.results67 _ _ _, by rw [unhide HSU], hB.trans (belowK_b (w := w) (Nat.le_refl _) W D _ _ (by simp at hD; omega) hK rfl rfl)⟩
    · rw [if_neg h3] at HSU
      gi_wp2
      refine ⟨by simp, .inl ⟨_, _, rfl, run_takeDeferred hK, ?_⟩⟩
      refine ⟨.int .i64 T.1, results_tmp Tryz.results67 _ _ _, by rw [unhide HSU], hB.trans (belowK_b (w := w) (Nat.le_refl _) W D _ _ (by simp at hD; omega) hK rfl rfl)⟩
  case stop =>
    rintro D c pre W hD hpre h9 hK
    exact h9.elim

theorem surplus_any {w : World} {base bW bx : Nat} {F FX : Nat → Prop} {v : Value} {ps : List Nat} {es : List EntM} {x : EntM} (h : RowMAc w base bW F v ps es) (hx : EntIn w FX bx x) (hfx : ∀ k, FX k → k < w.heap.size) (hl : es.length < 1000000000000) :
    Calls Tryz.prog 67 #[.pointer (some ⟨bW, 0, none⟩), ptrV bx] w fun e w' => e = .returned (.int .i64 (surP x (behN es ps es.length))) ∧ Below w.heap.size w w' := callsIn_wide.1 (surplus_in h hx hfx hl)
end Go.Proofs.YtkakncngkmoegaaGreat

namespace Go.Proofs.YtkakncngkmoegaaGreat
open Go.RowKit Go.Sort

structure KinM where
  sp : Int
  nm : ByteArray
def kin0 : KinM := ⟨0, ⟨#[]⟩⟩
/-- What the element of a number is called. -/
def elK (ks : List Key) (id : Int) : Option KinM := match keyAt ks id with
  | some q => if q.kind = 1 then some ⟨q.space, q.name⟩ else none
  | none => none
theorem elK_none {ks : List Key} {id : Int} (h : keyAt ks id = none) : elK ks id = none := by simp [elK, h]
theorem elK_key {ks : List Key} {id : Int} {q : Key} (h : keyAt ks id = some q) : elK ks id = if q.kind = 1 then some ⟨q.space, q.name⟩ else none := by simp [elK, h]
def placeE (es : List EntM) (id : Int) : Int := findP id (pairsN es es.length)
def enterEAc (ks : List Key) (es : List EntM) (id : Int) : Int := if (elK ks id).isSome = true then (if 0 ≤ placeE es id then 1 else 0) else 6
def enterK (ks : List Key) (es : List EntM) (id : Int) : KinM := if enterEAc ks es id = 0 then (elK ks id).getD kin0 else kin0
def KinM.agg (k : KinM) : Value := .agg #[.int .i64 k.sp, .string k.nm]

theorem two_blockAc (w : World) (b : Nat) (v0 v1 x0 x1 : Value) (t : TypeId) (h : w.heap[b]? = some (.cells #[x0, x1] t (0, 0))) : ((w.setCell ⟨b, 0, none⟩ v0).setCell ⟨b, 1, none⟩ v1).heap[b]? = some (.cells #[v0, v1] t (0, 0)) := by
  have h0 := heap_setCell_same w b 0 #[x0, x1] t v0 h
  have h1 := heap_setCell_same _ b 1 _ t v1 h0
  simpa using h1
theorem kin_ret (W : World) (b : Nat) (c : KinM) (h : W.heap[b]? = some (.cells #[.int .i64 c.sp, .string c.nm] 123 (0, 0))) (tmps : Array Value) (x : Value) (h4 : tmps.getD 4 undef = .pointer (some ⟨b, 0, none⟩)) (h5 : tmps.getD 5 undef = x) :
    (results Tryz.f65 tmps).run Tryz.prog W = .ok (.tuple #[c.agg, x]) W :=
  ret_two Tryz.results65 _ _ b _ _ h4 h5 (run_loadVar_row _ _ _ _ _ _ _ h Tryz.underlying123 rfl (by kernel_rfl))
theorem findP_lt (id : Int) : ∀ l : List (Nat × Int), -1 ≤ findP id l
  | [] => by simp [findP]
  | (i, x) :: r => by
    have := findP_lt id r
    unfold findP
    split <;> omega

section
variable {w : World} {base baseA bL bA bW : Nat} {ks : List Key} {F FA : Nat → Prop} {v : Value} {ps : List Nat} {es : List EntM}

set_option maxHeartbeats 4000000 in
theorem mayEnter_any (ha : ArK w baseA bA ks FA) (h : LiM w base bL bA bW F v ps es) (hl : es.length < 1000000000000) (id : Int) :
    Calls Tryz.prog 65 #[.pointer (some ⟨bL, 0, none⟩), .int .i64 id] w fun e w' => e = .returned (.tuple #[(enterK ks es id).agg, .int .i64 (enterEAc ks es id)]) ∧ Below w.heap.size w w' := by
  have hb0 : Below w.heap.size w (w.alloc (.cells #[.int .i64 0, .string ⟨#[]⟩] 123)) := (Below.refl _ w).alloc (Nat.le_refl _) _
  have HM := hide (lmade_any (h.below hb0))
  obtain ⟨h0, h1⟩ := (h.below hb0).cells
  have kb : ∀ w4, Below (w.alloc (.cells #[.int .i64 0, .string ⟨#[]⟩] 123)).heap.size (w.alloc (.cells #[.int .i64 0, .string ⟨#[]⟩] 123)) w4 →
      w4.heap[w.heap.size]? = some (.cells #[.int .i64 0, .string ⟨#[]⟩] 123 (0, 0)) ∧ w.heap.size < w4.heap.size ∧ Below w.heap.size w w4 := by
    intro w4 hb4
    refine ⟨(hb4.block _ (by simp)).trans (heap_alloc_new w _), ?_, hb0.trans (hb4.mono (by simp))⟩
    have := hb4.size
    simp at this
    omega
  have HKB := hide kb
  have fin : ∀ (w4 : World) (c : KinM) (o : Obj), Below w.heap.size w w4 → w.heap.size < w4.heap.size → w4.heap[w.heap.size]? = some (.cells #[.int .i64 0, .string ⟨#[]⟩] 123 (0, 0)) →
      (((w4.setCell ⟨w.heap.size, 0, none⟩ (.int .i64 c.sp)).setCell ⟨w.heap.size, 1, none⟩ (.string c.nm)).alloc o).heap[w.heap.size]? = some (.cells #[.int .i64 c.sp, .string c.nm] 123 (0, 0)) ∧
      Below w.heap.size w (((w4.setCell ⟨w.heap.size, 0, none⟩ (.int .i64 c.sp)).setCell ⟨w.heap.size, 1, none⟩ (.string c.nm)).alloc o) := by
    intro w4 c o b5 hlt hblk
    refine ⟨(Below.heap_alloc _ _ _ (by simp; omega)).trans (two_blockAc _ _ _ _ _ _ _ hblk), ?_⟩
    exact (b5.trans (((Mod.setCell (F := fun k => k = w.heap.size) w4 ⟨w.heap.size, 0, none⟩ _ rfl).trans (Mod.setCell _ ⟨w.heap.size, 1, none⟩ _ rfl)).below b5.size (fun k hk => by omega))).alloc (by simp; omega) _
  have HFIN := hide fin
  have fin2 : ∀ (w4 : World) (c : KinM), Below w.heap.size w w4 → w.heap.size < w4.heap.size → w4.heap[w.heap.size]? = some (.cells #[.int .i64 0, .string ⟨#[]⟩] 123 (0, 0)) →
      ((w4.setCell ⟨w.heap.size, 0, none⟩ (.int .i64 c.sp)).setCell ⟨w.heap.size, 1, none⟩ (.string c.nm)).heap[w.heap.size]? = some (.cells #[.int .i64 c.sp, .string c.nm] 123 (0, 0)) ∧
      Below w.heap.size w ((w4.setCell ⟨w.heap.size, 0, none⟩ (.int .i64 c.sp)).setCell ⟨w.heap.size, 1, none⟩ (.string c.nm)) := by
    intro w4 c b5 hlt hblk
    exact ⟨two_blockAc _ _ _ _ _ _ _ hblk, b5.trans (((Mod.setCell (F := fun k => k = w.heap.size) w4 ⟨w.heap.size, 0, none⟩ _ rfl).trans (Mod.setCell _ ⟨w.heap.size, 1, none⟩ _ rfl)).below b5.size (fun k hk => by omega))⟩
  have HFIN2 := hide fin2
  clear fin2
  have HF : Hid (∀ W, Below (w.alloc (.cells #[.int .i64 0, .string ⟨#[]⟩] 123)).heap.size (w.alloc (.cells #[.int .i64 0, .string ⟨#[]⟩] 123)) W → Calls Tryz.prog 84 #[.pointer (some ⟨bL, 0, none⟩), .int .i64 id] W fun e w' => e = .returned (.int .i64 (placeE es id)) ∧ Below W.heap.size W w') := hide (fun W hb => lfind_any (h.below (kb W hb).2.2) hl id)
  have hpl := findP_lt id (pairsN es es.length)
  change -1 ≤ placeE es id at hpl
  clear kb fin
  unfold enterK enterEAc
  cases hk : keyAt ks id with
  | none =>
    have HN := hide (node_k_no (ha.below hb0) hk)
    rw [elK_none hk]
    simp only [Option.isSome_none, Bool.false_eq_true, if_false, show ((6 : Int) = 0) = False from by decide]
    clear ha h hk hb0 hpl
    go_enter Tryz.func65, Tryz.ntmps65
    go_wp2_with (first | (go_at_call 53; refine (unhide HM).mono ?_; rintro e w1 ⟨rfl, rfl⟩) | (go_at_call 14; refine (unhide HN).mono ?_; rintro e w4 ⟨rfl, hb4⟩; obtain ⟨kb1, kb2, kb3⟩ := (unhide HKB) w4 hb4; have k0 : w4.cell? ⟨w.heap.size, 0, none⟩ = some (.int .i64 0) := (by simp [World.cell?, kb1]); have k1 : w4.cell? ⟨w.heap.size, 1, none⟩ = some (.string ⟨#[]⟩) := (by simp [World.cell?, kb1]); have f0 : w4.frozen? ⟨w.heap.size, 0, none⟩ = false := (by simp [World.frozen?, kb1]); have f1 : w4.frozen? ⟨w.heap.size, 1, none⟩ = false := (by simp [World.frozen?, kb1]); have kne : ¬ w.heap.size = w4.heap.size := (by omega); have kne2 : ¬ w4.heap.size = w.heap.size := (by omega); have klt : w.heap.size < w4.heap.size := (by omega); have HB1 := hide kb1; have HB2 := hide kb2; have HB3 := hide kb3; have HB4 := hide hb4; unfold nodeZ; clear hb4 kb1 kb2 kb3))
    have R := fun c o => (unhide HFIN) w4 c o (unhide HB3) (unhide HB2) (unhide HB1)
    exact bodyPost_ret (v := .tuple #[kin0.agg, .int .i64 6]) (kin_ret _ w.heap.size kin0 (R kin0 _).1 _ _ rfl rfl) rfl ⟨rfl, (R kin0 _).2⟩
  | some q =>
    have HN := hide (node_k (ha.below hb0) hk)
    have e0 := elK_key hk
    obtain ⟨qk, qs, qn⟩ := q
    by_cases hq1 : qk = 1
    · subst hq1
      simp only [if_true] at e0
      rw [e0]
      simp only [Option.isSome_some, if_true, Option.getD_some]
      have HX5 : Hid (∀ w4 o w5, Below (w.alloc (.cells #[.int .i64 0, .string ⟨#[]⟩] 123)).heap.size (w.alloc (.cells #[.int .i64 0, .string ⟨#[]⟩] 123)) w4 → Below (w4.alloc o).heap.size (w4.alloc o) w5 → w5.heap[w.heap.size]? = some (.cells #[.int .i64 0, .string ⟨#[]⟩] 123 (0, 0)) ∧ w.heap.size < w5.heap.size ∧ Below w.heap.size w w5 ∧ w5.heap[w4.heap.size]? = some o) := hide (fun w4 o w5 h4 h5 => by
        obtain ⟨a1, a2, a3⟩ := (unhide HKB) w5 (h4.trans (((below_newAc w4 o).trans (h5.mono (by simp))).mono h4.size))
        exact ⟨a1, a2, a3, (h5.block _ (by simp)).trans (heap_alloc_new w4 o)⟩)
      by_cases hp : 0 ≤ placeE es id
      · rw [if_pos hp]
        simp only [show ((1 : Int) = 0) = False from by decide, if_false]
        generalize placeE es id = pl at *
        clear ha h hk e0 hb0
        go_enter Tryz.func65, Tryz.ntmps65
        go_wp2_with (first | (go_at_call 53; refine (unhide HM).mono ?_; rintro e w1 ⟨rfl, rfl⟩) | (go_at_call 14; refine (unhide HN).mono ?_; rintro e w4 ⟨n, ao, mm, cc, rfl, hq, hb4⟩; obtain ⟨nk, nsp, nnm, nav, nda, nsy, npa, nfi, nla, npr, nne, nin, nat⟩ := n; obtain ⟨kb1, kb2, kb3⟩ := (unhide HKB) w4 hb4; have k0 : w4.cell? ⟨w.heap.size, 0, none⟩ = some (.int .i64 0) := (by simp [World.cell?, kb1]); have k1 : w4.cell? ⟨w.heap.size, 1, none⟩ = some (.string ⟨#[]⟩) := (by simp [World.cell?, kb1]); have f0 : w4.frozen? ⟨w.heap.size, 0, none⟩ = false := (by simp [World.frozen?, kb1]); have f1 : w4.frozen? ⟨w.heap.size, 1, none⟩ = false := (by simp [World.frozen?, kb1]); have kne : ¬ w.heap.size = w4.heap.size := (by omega); have kne2 : ¬ w4.heap.size = w.heap.size := (by omega); have klt : w.heap.size < w4.heap.size := (by omega); have HB1 := hide kb1; have HB2 := hide kb2; have HB3 := hide kb3; have HB4 := hide hb4; simp only [nodeV, NodeM.cells]; simp only [keyN, Key.mk.injEq] at hq; obtain ⟨rfl, rfl, rfl⟩ := hq; clear hb4 kb1 kb2 kb3) | (go_at_call 84; refine ((unhide HF) _ (by exact (unhide HB4).alloc (unhide HB4).size _)).mono ?_; rintro e w5 ⟨rfl, hb⟩; obtain ⟨x1, x2, x3, x4⟩ := (unhide HX5) _ _ _ (unhide HB4) hb; have m0 : w5.cell? ⟨w.heap.size, 0, none⟩ = some (.int .i64 0) := cell_of_row _ _ 0 _ _ _ x1; have m1 : w5.cell? ⟨w.heap.size, 1, none⟩ = some (.string ⟨#[]⟩) := cell_of_row _ _ 1 _ _ _ x1; have g0 : w5.frozen? ⟨w.heap.size, 0, none⟩ = false := free_row x1 0; have g1 : w5.frozen? ⟨w.heap.size, 1, none⟩ = false := free_row x1 1; have n1 : w5.cell? ⟨w4.heap.size, 1, none⟩ = some (.int .i64 nsp) := cell_of_row _ _ 1 _ _ _ x4; have n2 : w5.cell? ⟨w4.heap.size, 2, none⟩ = some (.string nnm) := cell_of_row _ _ 2 _ _ _ x4; have X1 := hide x1; have X2 := hide x2; have X3 := hide x3; clear x1 x2 x3 x4 hb))
        have R := fun c => (unhide HFIN2) w5 c (unhide X3) (unhide X2) (unhide X1)
        exact bodyPost_ret (v := .tuple #[kin0.agg, .int .i64 1]) (kin_ret _ w.heap.size kin0 (R kin0).1 _ _ rfl rfl) rfl ⟨rfl, (R kin0).2⟩
      · rw [if_neg hp]
        simp only [if_true]
        generalize placeE es id = pl at *
        clear ha h hk e0 hb0
        go_enter Tryz.func65, Tryz.ntmps65
        go_wp2_with (first | (go_at_call 53; refine (unhide HM).mono ?_; rintro e w1 ⟨rfl, rfl⟩) | (go_at_call 14; refine (unhide HN).mono ?_; rintro e w4 ⟨n, ao, mm, cc, rfl, hq, hb4⟩; obtain ⟨nk, nsp, nnm, nav, nda, nsy, npa, nfi, nla, npr, nne, nin, nat⟩ := n; obtain ⟨kb1, kb2, kb3⟩ := (unhide HKB) w4 hb4; have k0 : w4.cell? ⟨w.heap.size, 0, none⟩ = some (.int .i64 0) := (by simp [World.cell?, kb1]); have k1 : w4.cell? ⟨w.heap.size, 1, none⟩ = some (.string ⟨#[]⟩) := (by simp [World.cell?, kb1]); have f0 : w4.frozen? ⟨w.heap.size, 0, none⟩ = false := (by simp [World.frozen?, kb1]); have f1 : w4.frozen? ⟨w.heap.size, 1, none⟩ = false := (by simp [World.frozen?, kb1]); have kne : ¬ w.heap.size = w4.heap.size := (by omega); have kne2 : ¬ w4.heap.size = w.heap.size := (by omega); have klt : w.heap.size < w4.heap.size := (by omega); have HB1 := hide kb1; have HB2 := hide kb2; have HB3 := hide kb3; have HB4 := hide hb4; simp only [nodeV, NodeM.cells]; simp only [keyN, Key.mk.injEq] at hq; obtain ⟨rfl, rfl, rfl⟩ := hq; clear hb4 kb1 kb2 kb3) | (go_at_call 84; refine ((unhide HF) _ (by exact (unhide HB4).alloc (unhide HB4).size _)).mono ?_; rintro e w5 ⟨rfl, hb⟩; obtain ⟨x1, x2, x3, x4⟩ := (unhide HX5) _ _ _ (unhide HB4) hb; have m0 : w5.cell? ⟨w.heap.size, 0, none⟩ = some (.int .i64 0) := cell_of_row _ _ 0 _ _ _ x1; have m1 : w5.cell? ⟨w.heap.size, 1, none⟩ = some (.string ⟨#[]⟩) := cell_of_row _ _ 1 _ _ _ x1; have g0 : w5.frozen? ⟨w.heap.size, 0, none⟩ = false := free_row x1 0; have g1 : w5.frozen? ⟨w.heap.size, 1, none⟩ = false := free_row x1 1; have n1 : w5.cell? ⟨w4.heap.size, 1, none⟩ = some (.int .i64 nsp) := cell_of_row _ _ 1 _ _ _ x4; have n2 : w5.cell? ⟨w4.heap.size, 2, none⟩ = some (.string nnm) := cell_of_row _ _ 2 _ _ _ x4; have X1 := hide x1; have X2 := hide x2; have X3 := hide x3; clear x1 x2 x3 x4 hb))
        have R := fun c => (unhide HFIN2) w5 c (unhide X3) (unhide X2) (unhide X1)
        exact bodyPost_ret (v := .tuple #[KinM.agg ⟨_, _⟩, .int .i64 0]) (kin_ret _ w.heap.size ⟨_, _⟩ (R ⟨_, _⟩).1 _ _ rfl rfl) rfl ⟨rfl, (R ⟨_, _⟩).2⟩
    · rw [if_neg hq1] at e0
      rw [e0]
      simp only [Option.isSome_none, Bool.false_eq_true, if_false, show ((6 : Int) = 0) = False from by decide]
      have hq1' : (qk != 1) = true := by simpa using hq1
      clear ha h hk e0 hb0 hq1 hpl
      go_enter Tryz.func65, Tryz.ntmps65
      go_wp2_with (first | (go_at_call 53; refine (unhide HM).mono ?_; rintro e w1 ⟨rfl, rfl⟩) | (go_at_call 14; refine (unhide HN).mono ?_; rintro e w4 ⟨n, ao, mm, cc, rfl, hq, hb4⟩; obtain ⟨nk, nsp, nnm, nav, nda, nsy, npa, nfi, nla, npr, nne, nin, nat⟩ := n; obtain ⟨kb1, kb2, kb3⟩ := (unhide HKB) w4 hb4; have k0 : w4.cell? ⟨w.heap.size, 0, none⟩ = some (.int .i64 0) := (by simp [World.cell?, kb1]); have k1 : w4.cell? ⟨w.heap.size, 1, none⟩ = some (.string ⟨#[]⟩) := (by simp [World.cell?, kb1]); have f0 : w4.frozen? ⟨w.heap.size, 0, none⟩ = false := (by simp [World.frozen?, kb1]); have f1 : w4.frozen? ⟨w.heap.size, 1, none⟩ = false := (by simp [World.frozen?, kb1]); have kne : ¬ w.heap.size = w4.heap.size := (by omega); have kne2 : ¬ w4.heap.size = w.heap.size := (by omega); have klt : w.heap.size < w4.heap.size := (by omega); have HB1 := hide kb1; have HB2 := hide kb2; have HB3 := hide kb3; have HB4 := hide hb4; simp only [nodeV, NodeM.cells]; simp only [keyN, Key.mk.injEq] at hq; obtain ⟨rfl, rfl, rfl⟩ := hq; clear hb4 kb1 kb2 kb3))
      have R := fun c o => (unhide HFIN) w4 c o (unhide HB3) (unhide HB2) (unhide HB1)
      exact bodyPost_ret (v := .tuple #[kin0.agg, .int .i64 6]) (kin_ret _ w.heap.size kin0 (R kin0 _).1 _ _ rfl rfl) rfl ⟨rfl, (R kin0 _).2⟩
end
end Go.Proofs.YtkakncngkmoegaaGreat
