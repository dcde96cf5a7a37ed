/-
  Package active: the last element of a name; which entry goes if another comes. Package active: which entry goes if another comes.
-/
import Derived.Test.YtabdgmcajndgbaaSBal
namespace Go.Proofs.Ytabdgmcajndgbaa
open Go.RowKit Go.Sort Go.Shelf
attribute [local go_sem] Oper.semAt_some

theorem behind_in (n : Nat) (bW : Nat) (w : World) :
    CallsIn Fence.wide n Try.prog 59 #[.pointer (some ⟨bW, 0, none⟩)] w fun e w' => e = .returned (.func (.func 70) #[] #[.pointer (some ⟨w.heap.size, 0, none⟩)]) ∧ w' = w.alloc (.cells #[.pointer (some ⟨bW, 0, none⟩)] 60) := by
  refine callsIn_of_wp Try.func59 rfl trivial ?_ rfl
  simp only [Try.ntmps59, List.size_toArray, List.length_cons, List.length_nil, Nat.reduceAdd, Nat.reduceSub, Array.replicate_succ, Array.replicate_zero, List.push_toArray, List.append_toArray, List.nil_append, List.cons_append]
  gi_wp2
  go_ret
  exact ⟨rfl, rfl⟩

theorem beh_stops {base bW : Nat} {F : Nat → Prop} {v : Value} {ps : List Nat} {es : List EntM} (n : Nat) (hn : 1 ≤ n) (Ba : Nat) (P : Nat → Prop) (hPf : ∀ k, F k → P k) (hPa : P Ba)
    (w : World) (hBa : w.heap[Ba]? = some (.cells #[.pointer (some ⟨bW, 0, none⟩)] 60 (0, 0))) (har : RowM w base bW F v ps es) (hl : es.length < 1000000000000) :
    SeqStopsK Fence.wide n Try.prog 70 #[.pointer (some ⟨Ba, 0, none⟩)] (fun x : BP es ps => #[Value.int .i64 (x.i : Int), ptrV x.b]) (KeepP P) (fun ys => ys = behN es ps es.length) (fun pre => pre <+: behN es ps es.length) (behN es ps es.length).length w := fun l J Jx W hW _ _ hY h0 =>
  beh1_in n hn l Ba P hPf hPa J Jx hY W ((hW.block Ba (lt_of_block hBa)).trans hBa) (har.below hW) hl h0

/-- The first of some entries that is of HTML and of a name. -/
def lastP {es : List EntM} {ps : List Nat} (nm : ByteArray) : List (BP es ps) → Int
  | [] => -1
  | y :: r => if kinB y.x.sp 0 y.x.nm nm = true then y.x.node else lastP nm r
theorem lastP_none {es : List EntM} {ps : List Nat} {nm : ByteArray} : ∀ {l : List (BP es ps)}, (∀ y ∈ l, kinB y.x.sp 0 y.x.nm nm = false) → lastP nm l = -1
  | [], _ => rfl
  | y :: r, h => by
    unfold lastP
    rw [if_neg (by rw [h y (by simp)]; decide)]
    exact lastP_none (fun z hz => h z (List.mem_cons_of_mem _ hz))
theorem lastP_some {es : List EntM} {ps : List Nat} {nm : ByteArray} : ∀ {l : List (BP es ps)} {y : BP es ps} {r : List (BP es ps)}, (∀ z ∈ l, kinB z.x.sp 0 z.x.nm nm = false) → kinB y.x.sp 0 y.x.nm nm = true → lastP nm (l ++ y :: r) = y.x.node
  | [], y, r, _, h => by simp only [List.nil_append, lastP]; rw [if_pos h]
  | z :: l, y, r, h, hy => by
    rw [List.cons_append, lastP, if_neg (by rw [h z (by simp)]; decide)]
    exact lastP_some (fun u hu => h u (List.mem_cons_of_mem _ hu)) hy

set_option maxRecDepth 100000 in
set_option maxHeartbeats 2000000 in
theorem llast_in {w : World} {base bL bA bW : Nat} {F : Nat → Prop} {v : Value} {ps : List Nat} {es : List EntM} (h : LiM w base bL bA bW F v ps es) (hl : es.length < 1000000000000) (nm : ByteArray) :
    CallsIn Fence.wide 4 Try.prog 26 #[.pointer (some ⟨bL, 0, none⟩), .string nm] w fun e w' => e = .returned (.int .i64 (lastP nm (behN es ps es.length))) ∧ Below w.heap.size w w' := by
  have hb2 := below_two w (.cells #[.string nm] 9) (.cells #[.int .i64 0] 3)
  have HM := hide (lmade_any (h.below hb2))
  have HH := hide h
  have HL := hide hl
  obtain ⟨h0, h1⟩ := (h.below hb2).cells
  clear h hl hb2
  refine callsIn_of_wp_marks Try.func26 rfl trivial ?_ rfl
  simp only [Try.ntmps26, List.size_toArray, List.length_cons, List.length_nil, Nat.reduceAdd, Nat.reduceSub, Array.replicate_succ, Array.replicate_zero, List.push_toArray, List.append_toArray, List.nil_append, List.cons_append]
  gi_wp2_with fail
  refine ⟨trivial, (callsIn_wide.2 (unhide HM)).mono ?_⟩
  rintro e w' ⟨rfl, rfl⟩
  gi_wp2_with fail
  refine ⟨trivial, (behind_in _ _ _).mono ?_⟩
  rintro e w' ⟨rfl, rfl⟩
  gi_wp2_with fail
  have c0 := cell_new_l w (.string nm) 9
  have c1 := cell_new_l (w.alloc (.cells #[.string nm] 9)) (.int .i64 0) 3
  simp only [World.size_alloc] at c1
  have hBa : (((w.alloc (.cells #[.string nm] 9)).alloc (.cells #[.int .i64 0] 3)).alloc (.cells #[.pointer (some ⟨bW, 0, none⟩)] 60)).heap[w.heap.size + 1 + 1]? = some (.cells #[.pointer (some ⟨bW, 0, none⟩)] 60 (0, 0)) := last_block _ _ _ (by simp)
  have hB0 : Below w.heap.size w (((w.alloc (.cells #[.string nm] 9)).alloc (.cells #[.int .i64 0] 3)).alloc (.cells #[.pointer (some ⟨bW, 0, none⟩)] 60)) := (((Below.refl _ w).alloc (Nat.le_refl _) _).alloc (by simp) _).alloc (by simp; omega) _
  have har := (unhide HH).row.below hB0
  have hPf : ∀ k, F k → k < w.heap.size ∨ k = w.heap.size + 1 + 1 := fun k hk => .inl ((unhide HH).row.lt k hk).2
  have hll := unhide HL
  refine wpIn_rangeFunc_ownF (w0 := (((w.alloc (.cells #[.string nm] 9)).alloc (.cells #[.int .i64 0] 3)).alloc (.cells #[.pointer (some ⟨bW, 0, none⟩)] 60))) rfl (by omega) (gf := 70) (lb := #[.pointer (some ⟨w.heap.size + 1 + 1, 0, none⟩)]) rfl trivial (enters_of Try.func70 (by kernel_rfl) rfl)
    (beh_stops 3 (by omega) (w.heap.size + 1 + 1) (fun k => k < w.heap.size ∨ k = w.heap.size + 1 + 1) hPf (.inr rfl) _ hBa har hll) keepP_t (keepP_b (by intro k hk; simp; omega)) (Below.refl _ _) (fun _ => rfl)
    (fun pre W => ((∀ y ∈ pre, kinB y.x.sp 0 y.x.nm nm = false) ∧ W.cell? ⟨w.heap.size, 0, none⟩ = some (.string nm) ∧ W.cell? ⟨w.heap.size + 1, 0, none⟩ = some (.int .i64 0) ∧ W.frozen? ⟨w.heap.size + 1, 0, none⟩ = false) ∧ Below w.heap.size w W)
    (fun c pre W => (c = .ret ∧ (∃ l y, pre = l ++ [y] ∧ (∀ z ∈ l, kinB z.x.sp 0 z.x.nm nm = false) ∧ kinB y.x.sp 0 y.x.nm nm = true ∧ W.cell? ⟨w.heap.size + 1, 0, none⟩ = some (.int .i64 y.x.node))) ∧ Below w.heap.size w W)
    (OwnFrom.and (Own.from (fun s A B row hs hg hr => ⟨hs.1, cell_kept hs.2.1 hg hr, cell_kept hs.2.2.1 hg hr, (frozen_kept hs.2.2.1 hg hr).trans hs.2.2.2⟩) _) (ownFrom_below (Nat.le_refl _) (by simp; omega)))
    (fun c => OwnFrom.and (Own.from (fun s A B row hs hg hr => by
      obtain ⟨e, l, y, h1, h2, h3, h4⟩ := hs
      exact ⟨e, l, y, h1, h2, h3, cell_kept h4 hg hr⟩) _) (ownFrom_below (Nat.le_refl _) (by simp; omega)))
    ⟨⟨by simp, cell_alloc_l _ (cell_alloc_l _ c0.1), cell_alloc_l _ c1.1, frozen_alloc_l _ c1.1 c1.2⟩, hB0⟩
    (fun x => { tmps := #[.pointer (some ⟨bL, 0, none⟩), .string nm, undef, .pointer (some ⟨w.heap.size, 0, none⟩), .pointer (some ⟨w.heap.size + 1, 0, none⟩), undef, ptrV x.b, .pointer (some ⟨bL, 0, none⟩), .bool true, .bool false, .pointer (some ⟨bL, 0, none⟩), .pointer (some ⟨bL, 0, none⟩), .pointer (some ⟨bL, 1, none⟩), .pointer (some ⟨bW, 0, none⟩), .func (.func 70) #[] #[.pointer (some ⟨w.heap.size + 1 + 1, 0, none⟩)], .int .i64 (x.i : Int), ptrV x.b, undef, undef, undef, undef, undef, undef, undef, undef, undef, undef, undef], defers := [] }) ?assign ?body ?done ?stop
  case assign =>
    intro l x W K hK
    gi_wp2
    exact hK
  case body =>
    rintro l pre x W ⟨⟨hp, hcw, hcr, hfr⟩, hB⟩ _
    clear c0 c1 hBa hB0 hPf har hll h0 h1
    have he := ((unhide HH).row.below hB).ents x.i x.b x.x x.hb x.hx
    obtain ⟨ao, ac, so, sc, hblk, _⟩ := he.lies
    have d0 : W.cell? ⟨x.b, 0, none⟩ = some (.int .i64 x.x.node) := cell_of_row _ _ 0 _ _ _ hblk
    have d1 : W.cell? ⟨x.b, 1, none⟩ = some (.int .i64 x.x.sp) := cell_of_row _ _ 1 _ _ _ hblk
    have d2 : W.cell? ⟨x.b, 2, none⟩ = some (.string x.x.nm) := cell_of_row _ _ 2 _ _ _ hblk
    have hgk := guardK
    have hk := fun W => eqlKin x.x.sp 0 x.x.nm nm W
    unfold ptrV
    clear he hblk
    cases hkk : kinB x.x.sp 0 x.x.nm nm with
    | true =>
      rw [hkk] at hk
      gi_wp2
      gi_region
      all_goals gi_wp2
      all_goals exact ⟨(KeepsOthers.drew _).trans (KeepsOthers.setCell _ _ _), ⟨rfl, pre, x, rfl, hp, hkk, World.cell?_setCell_same' W.drew _ _ (by rw [show W.drew.cell? ⟨w.heap.size + 1, 0, none⟩ = _ from hcr]; rfl)⟩, hB.drew.setCell (p := ⟨w.heap.size + 1, 0, none⟩) (by simp) _⟩
    | false =>
      rw [hkk] at hk
      gi_wp2
      gi_region
      all_goals gi_wp2
      all_goals exact ⟨KeepsOthers.drew _, fun _ _ => rfl, ⟨fun y hy => (List.mem_append.1 hy).elim (hp y) (fun e => by simp at e; subst e; exact hkk), hcw, hcr, hfr⟩, hB.drew⟩
  case done =>
    rintro D ys W hD rfl ⟨⟨hne, _, hcr, hfr⟩, hB⟩ hK
    clear c0 c1 hBa hB0 hPf har hll h0 h1
    gi_wp2
    have hK' := (KeepsOthers.setCell W ⟨w.heap.size + 1, 0, none⟩ (.int .i64 (-1))).same D _ hK rfl
    refine ⟨by simp, .inl ⟨_, _, rfl, run_takeDeferred hK', ?_⟩⟩
    have hc5 := cell_kept (World.cell?_setCell_same' W ⟨w.heap.size + 1, 0, none⟩ (.int .i64 (-1)) (by rw [hcr]; rfl)) (grownBy_putObj' _ D (.deferred none)) (fun r e => by cases e; exact ⟨_, hK', rfl⟩)
    refine ⟨.int .i64 (-1), ?_, by rw [lastP_none hne], (hB.setCell (p := ⟨w.heap.size + 1, 0, none⟩) (by simp) _).trans (belowK_b (w := w) (Nat.le_refl _) _ D _ _ (by simp at hD; omega) hK' rfl rfl)⟩
    simp [results, Try.results26, go_sem, hc5]
  case stop =>
    rintro D c pre W hD hpre ⟨⟨rfl, l, y, rfl, hl1, hl2, hcr⟩, hB⟩ hK
    clear c0 c1 hBa hB0 hPf har hll h0 h1
    gi_wp2
    refine ⟨by simp, .inl ⟨_, _, rfl, run_takeDeferred hK, ?_⟩⟩
    have hc5 := cell_kept hcr (grownBy_putObj' _ D (.deferred none)) (fun r e => by cases e; exact ⟨_, hK, rfl⟩)
    have hyes : lastP nm (behN es ps es.length) = y.x.node := by
      obtain ⟨t, ht⟩ := hpre
      rw [← ht, List.append_assoc]
      exact lastP_some hl1 hl2
    refine ⟨.int .i64 y.x.node, ?_, by rw [hyes], hB.trans (belowK_b (w := w) (Nat.le_refl _) W D _ _ (by simp at hD; omega) hK rfl rfl)⟩
    simp [results, Try.results26, go_sem, hc5]

theorem llast_any {w : World} {base bL bA bW : Nat} {F : Nat → Prop} {v : Value} {ps : List Nat} {es : List EntM} (h : LiM w base bL bA bW F v ps es) (hl : es.length < 1000000000000) (nm : ByteArray) :
    Calls Try.prog 26 #[.pointer (some ⟨bL, 0, none⟩), .string nm] w fun e w' => e = .returned (.int .i64 (lastP nm (behN es ps es.length))) ∧ Below w.heap.size w w' := callsIn_wide.1 (llast_in h hl nm)
end Go.Proofs.Ytabdgmcajndgbaa

namespace Go.Proofs.Ytabdgmcajndgbaa
open Go.RowKit Go.Sort Go.Shelf
attribute [local go_sem] Oper.semAt_some

/-- Of some entries: the last that is alike to one, and how many are. -/
def scanP {es : List EntM} {ps : List Nat} (x : EntM) (l : List (BP es ps)) : Int × Int := l.foldl (fun s y => if alikeM x y.x = true then ((y.i : Int), s.2 + 1) else s) (-1, 0)
theorem scanP_snoc {es : List EntM} {ps : List Nat} (x : EntM) (l : List (BP es ps)) (y : BP es ps) : scanP x (l ++ [y]) = if alikeM x y.x = true then ((y.i : Int), (scanP x l).2 + 1) else scanP x l := by
  unfold scanP
  rw [List.foldl_append]
  rfl
theorem scanP_le {es : List EntM} {ps : List Nat} (x : EntM) (l : List (BP es ps)) : 0 ≤ (scanP x l).2 ∧ (scanP x l).2 ≤ (l.length : Int) := by
  have key : ∀ (n : Nat) (l : List (BP es ps)), l.length = n → 0 ≤ (scanP x l).2 ∧ (scanP x l).2 ≤ (l.length : Int) := by
    intro n
    induction n with
    | zero =>
      intro l hl
      obtain rfl : l = [] := List.eq_nil_of_length_eq_zero hl
      simp [scanP]
    | succ n ih =>
      intro l hl
      have hne : l ≠ [] := by intro e; subst e; simp at hl
      have e := List.dropLast_concat_getLast hne
      have ih2 := ih l.dropLast (by simp; omega)
      rw [← e, scanP_snoc, List.length_append]
      split <;> simp at ih2 ⊢ <;> omega
  exact key _ l rfl
def surP {es : List EntM} {ps : List Nat} (x : EntM) (l : List (BP es ps)) : Int := if (scanP x l).2 < 3 then -1 else (scanP x l).1

theorem behN_len (es : List EntM) (ps : List Nat) : ∀ n, (behN es ps n).length ≤ n
  | 0 => by simp [behN]
  | n + 1 => by
    have ih := behN_len es ps n
    conv => lhs; unfold behN
    split
    · split
      · simp
      · simp; omega
    · simp

set_option maxRecDepth 100000 in
set_option maxHeartbeats 4000000 in
theorem surplus_in {w : World} {base bW bx : Nat} {F FX : Nat → Prop} {v : Value} {ps : List Nat} {es : List EntM} {x : EntM} (h : RowM w base bW F v ps es) (hx : EntIn w FX bx x) (hfx : ∀ k, FX k → k < w.heap.size) (hl : es.length < 1000000000000) :
    CallsIn Fence.wide 4 Try.prog 50 #[.pointer (some ⟨bW, 0, none⟩), ptrV bx] w fun e w' => e = .returned (.int .i64 (surP x (behN es ps es.length))) ∧ Below w.heap.size w w' := by
  have HH := hide h
  have HX := hide hx
  have HFX := hide hfx
  have HL := hide hl
  clear h hx hfx hl
  unfold ptrV
  refine callsIn_of_wp_marks Try.func50 rfl trivial ?_ rfl
  simp only [Try.ntmps50, List.size_toArray, List.length_cons, List.length_nil, Nat.reduceAdd, Nat.reduceSub, Array.replicate_succ, Array.replicate_zero, List.push_toArray, List.append_toArray, List.nil_append, List.cons_append]
  gi_wp2_with fail
  refine ⟨trivial, (behind_in _ _ _).mono ?_⟩
  rintro e w' ⟨rfl, rfl⟩
  gi_wp2_with fail
  have c0 := Boxed.new w 78 (.pointer (some ⟨bx, 0, none⟩))
  have c1 := Boxed.new (w.alloc (.cells #[.pointer (some ⟨bx, 0, none⟩)] 78)) 3 (.int .i64 (-1))
  have c2 := Boxed.new ((w.alloc (.cells #[.pointer (some ⟨bx, 0, none⟩)] 78)).alloc (.cells #[.int .i64 (-1)] 3)) 3 (.int .i64 0)
  simp only [World.size_alloc] at c1 c2
  have hBa : ((((w.alloc (.cells #[.pointer (some ⟨bx, 0, none⟩)] 78)).alloc (.cells #[.int .i64 (-1)] 3)).alloc (.cells #[.int .i64 0] 3)).alloc (.cells #[.pointer (some ⟨bW, 0, none⟩)] 60)).heap[w.heap.size + 1 + 1 + 1]? = some (.cells #[.pointer (some ⟨bW, 0, none⟩)] 60 (0, 0)) := last_block _ _ _ (by simp)
  have hB0 : Below w.heap.size w ((((w.alloc (.cells #[.pointer (some ⟨bx, 0, none⟩)] 78)).alloc (.cells #[.int .i64 (-1)] 3)).alloc (.cells #[.int .i64 0] 3)).alloc (.cells #[.pointer (some ⟨bW, 0, none⟩)] 60)) := ((((Below.refl _ w).alloc (Nat.le_refl _) _).alloc (by simp) _).alloc (by simp; omega) _).alloc (by simp; omega) _
  have har := (unhide HH).below hB0
  have hPf : ∀ k, F k → k < w.heap.size ∨ k = w.heap.size + 1 + 1 + 1 := fun k hk => .inl ((unhide HH).lt k hk).2
  have hll := unhide HL
  have hnl := behN_len es ps es.length
  have HNL := hide hnl
  clear hnl
  refine wpIn_rangeFunc_ownF (w0 := ((((w.alloc (.cells #[.pointer (some ⟨bx, 0, none⟩)] 78)).alloc (.cells #[.int .i64 (-1)] 3)).alloc (.cells #[.int .i64 0] 3)).alloc (.cells #[.pointer (some ⟨bW, 0, none⟩)] 60))) rfl (by omega) (gf := 70) (lb := #[.pointer (some ⟨w.heap.size + 1 + 1 + 1, 0, none⟩)]) rfl trivial (enters_of Try.func70 (by kernel_rfl) rfl)
    (beh_stops 3 (by omega) (w.heap.size + 1 + 1 + 1) (fun k => k < w.heap.size ∨ k = w.heap.size + 1 + 1 + 1) hPf (.inr rfl) _ hBa har hll) keepP_t (keepP_b (by intro k hk; simp; omega)) (Below.refl _ _) (fun _ => rfl)
    (fun pre W => ((Boxed W w.heap.size 78 (.pointer (some ⟨bx, 0, none⟩)) ∧ Boxed W (w.heap.size + 1) 3 (.int .i64 (scanP x pre).1)) ∧ Boxed W (w.heap.size + 1 + 1) 3 (.int .i64 (scanP x pre).2)) ∧ Below w.heap.size w W)
    (fun _ _ _ => False)
    (OwnFrom.and (OwnFrom.and (OwnFrom.and (Own.from (boxed_own w.heap.size 78 (fun _ => .pointer (some ⟨bx, 0, none⟩))) _) (Own.from (boxed_own (w.heap.size + 1) 3 (fun pre => .int .i64 (scanP x pre).1)) _)) (Own.from (boxed_own (w.heap.size + 1 + 1) 3 (fun pre => .int .i64 (scanP x pre).2)) _)) (ownFrom_below (Nat.le_refl _) (by simp; omega)))
    (fun _ _ _ _ _ hs _ _ => hs)
    ⟨⟨⟨((c0.alloc _).alloc _).alloc _, (c1.alloc _).alloc _⟩, c2.alloc _⟩, hB0⟩
    (fun y => { tmps := #[.pointer (some ⟨bW, 0, none⟩), .pointer (some ⟨bx, 0, none⟩), undef, .pointer (some ⟨w.heap.size, 0, none⟩), .int .i64 0, .pointer (some ⟨w.heap.size + 1, 0, none⟩), .pointer (some ⟨w.heap.size + 1 + 1, 0, none⟩), .int .i64 (y.i : Int), ptrV y.b, .pointer (some ⟨bW, 0, none⟩), .func (.func 70) #[] #[.pointer (some ⟨w.heap.size + 1 + 1 + 1, 0, none⟩)], .int .i64 (y.i : Int), ptrV y.b, undef, undef, undef, undef, undef, undef, undef, undef, undef], defers := [] }) ?assign ?body ?done ?stop
  case assign =>
    intro l x W K hK
    gi_wp2
    exact hK
  case body =>
    rintro l pre y W ⟨⟨⟨bX, bE⟩, bN⟩, hB⟩ hpl
    have hcx := cell_of_one bX
    have hce := cell_of_one bE
    have hfe := free_of_one bE
    have hcn := cell_of_one bN
    have hfn := free_of_one bN
    have BX := hide bX
    have BE := hide bE
    have BN := hide bN
    clear bX bE bN
    clear c0 c1 c2 hBa hB0 hPf har
    have hsz := hB.size
    have he : EntIn W (fun k => F k ∨ FX k) y.b y.x := (((unhide HH).below hB).ents y.i y.b y.x y.hb y.hx).wide (fun k hk => .inl hk)
    have hex : EntIn W (fun k => F k ∨ FX k) bx x := ((unhide HX).mod (Mod.of_below (F := fun _ => False) hB) (fun _ _ e => e)).wide (fun k hk => .inr hk)
    have HA := hide (alike_any hex he)
    have hsl := scanP_le x pre
    have hn2 : (pre.length : Int) < 1000000000000 := by have := unhide HNL; omega
    have hwn : IntKind.i64.wrap ((scanP x pre).2 + 1) = (scanP x pre).2 + 1 := by rw [IntKind.wrap_i64]; omega
    have HS := hide (scanP_snoc x pre y)
    unfold ptrV
    clear he hex hsl hn2 hpl hll
    cases ha : alikeM x y.x with
    | true =>
      rw [ha] at HA HS
      rw [if_pos rfl] at HS
      clear ha
      gi_wp2_with fail
      refine ⟨trivial, (callsIn_wide.2 (unhide HA)).mono ?_⟩
      rintro e w1 ⟨rfl, q, rfl⟩
      gi_wp2
      have bX : (W.drewN q).heap[w.heap.size]? = some (.cells #[.pointer (some ⟨bx, 0, none⟩)] 78 (0, 0)) := unhide BX
      have bE : (W.drewN q).heap[w.heap.size + 1]? = some (.cells #[.int .i64 (scanP x pre).1] 3 (0, 0)) := unhide BE
      have bN : (W.drewN q).heap[w.heap.size + 1 + 1]? = some (.cells #[.int .i64 (scanP x pre).2] 3 (0, 0)) := unhide BN
      have oth : ∀ k, k ≠ w.heap.size + 1 → k ≠ w.heap.size + 1 + 1 → (((W.drewN q).setCell ⟨w.heap.size + 1, 0, none⟩ (.int .i64 (y.i : Int))).setCell ⟨w.heap.size + 1 + 1, 0, none⟩ (.int .i64 ((scanP x pre).2 + 1))).heap[k]? = W.heap[k]? := fun k h1 h2 => (Below.heap_setCell _ _ _ _ h2).trans (Below.heap_setCell _ _ _ _ h1)
      refine ⟨((show KeepsOthers W (W.drewN q) from ⟨Nat.le_refl _, fun _ _ h _ => h⟩).trans (KeepsOthers.setCell (W.drewN q) ⟨w.heap.size + 1, 0, none⟩ _)).trans (KeepsOthers.setCell _ _ _), fun k hk => oth k (by omega) (by omega), ⟨⟨(oth _ (by omega) (by omega)).trans (unhide BX), ?_⟩, ?_⟩, ((below_dn hB q).setCell (p := ⟨w.heap.size + 1, 0, none⟩) (by simp) _).setCell (p := ⟨w.heap.size + 1 + 1, 0, none⟩) (by simp; omega) _⟩
      · show _ = _
        rw [unhide HS]
        exact (Below.heap_setCell _ _ _ _ (by simp)).trans (heap_setCell_same _ _ _ _ _ _ bE)
      · show _ = _
        rw [unhide HS]
        exact heap_setCell_same _ _ _ _ _ _ ((Below.heap_setCell _ _ _ _ (by simp)).trans bN)
    | false =>
      rw [ha] at HA HS
      rw [if_neg (by decide)] at HS
      clear ha
      gi_wp2_with fail
      refine ⟨trivial, (callsIn_wide.2 (unhide HA)).mono ?_⟩
      rintro e w1 ⟨rfl, q, rfl⟩
      gi_wp2
      refine ⟨⟨Nat.le_refl _, fun _ _ h _ => h⟩, fun _ _ => rfl, ?_, below_dn hB q⟩
      rw [unhide HS]
      exact ⟨⟨unhide BX, unhide BE⟩, unhide BN⟩
  case done =>
    rintro D ys W hD rfl ⟨⟨⟨_, bE⟩, bN⟩, hB⟩ hK
    have hce := cell_of_one bE
    have hcn := cell_of_one bN
    clear bE bN
    clear c0 c1 c2 hBa hB0 hPf har hll
    generalize hT : scanP x (behN es ps es.length) = T at *
    have hsur : surP x (behN es ps es.length) = if T.2 < 3 then -1 else T.1 := by unfold surP; rw [hT]
    have HSU := hide hsur
    clear hsur hT
    by_cases h3 : T.2 < 3
    · rw [if_pos h3] at HSU
      gi_wp2
      refine ⟨by simp, .inl ⟨_, _, rfl, run_takeDeferred hK, ?_⟩⟩
      refine ⟨.int .i64 (-1), results_tmp Try.results50 _ _ _, by rw [unhide HSU], hB.trans (belowK_b (w := w) (Nat.le_refl _) W D _ _ (by simp at hD; omega) hK rfl rfl)⟩
    · rw [if_neg h3] at HSU
      gi_wp2
      refine ⟨by simp, .inl ⟨_, _, rfl, run_takeDeferred hK, ?_⟩⟩
      refine ⟨.int .i64 T.1, results_tmp Try.results50 _ _ _, by rw [unhide HSU], hB.trans (belowK_b (w := w) (Nat.le_refl _) W D _ _ (by simp at hD; omega) hK rfl rfl)⟩
  case stop =>
    rintro D c pre W hD hpre h9 hK
    exact h9.elim

theorem surplus_any {w : World} {base bW bx : Nat} {F FX : Nat → Prop} {v : Value} {ps : List Nat} {es : List EntM} {x : EntM} (h : RowM w base bW F v ps es) (hx : EntIn w FX bx x) (hfx : ∀ k, FX k → k < w.heap.size) (hl : es.length < 1000000000000) :
    Calls Try.prog 50 #[.pointer (some ⟨bW, 0, none⟩), ptrV bx] w fun e w' => e = .returned (.int .i64 (surP x (behN es ps es.length))) ∧ Below w.heap.size w w' := callsIn_wide.1 (surplus_in h hx hfx hl)
end Go.Proofs.Ytabdgmcajndgbaa
