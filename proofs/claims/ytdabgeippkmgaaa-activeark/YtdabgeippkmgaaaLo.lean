/-
  Package active: the last element of a name; which entry goes if another comes.
-/
import Derived.Test.YtdabgeippkmgaaaLn
namespace Go.Proofs.Ytdabgeippkmgaaa
open Go.RowKit Go.Sort Go.Shelf
attribute [local go_sem] Oper.semAt_some

theorem behind_in (n : Nat) (bW : Nat) (w : World) :
    CallsIn Fence.wide n Try.prog 102 #[.pointer (some ⟨bW, 0, none⟩)] w fun e w' => e = .returned (.func (.func 167) #[] #[.pointer (some ⟨w.heap.size, 0, none⟩)]) ∧ w' = w.alloc (.cells #[.pointer (some ⟨bW, 0, none⟩)] 120) := by
  refine callsIn_of_wp Try.func102 rfl trivial ?_ rfl
  simp only [Try.ntmps102, List.size_toArray, List.length_cons, List.length_nil, Nat.reduceAdd, Nat.reduceSub, Array.replicate_succ, Array.replicate_zero, List.push_toArray, List.append_toArray, List.nil_append, List.cons_append]
  gi_wp2
  go_ret
  exact ⟨rfl, rfl⟩

theorem beh_stops {base bW : Nat} {F : Nat → Prop} {v : Value} {ps : List Nat} {es : List EntM} (n : Nat) (hn : 1 ≤ n) (Ba : Nat) (P : Nat → Prop) (hPf : ∀ k, F k → P k) (hPa : P Ba)
    (w : World) (hBa : w.heap[Ba]? = some (.cells #[.pointer (some ⟨bW, 0, none⟩)] 120 (0, 0))) (har : RowM w base bW F v ps es) (hl : es.length < 1000000000000) :
    SeqStopsK Fence.wide n Try.prog 167 #[.pointer (some ⟨Ba, 0, none⟩)] (fun x : BP es ps => #[Value.int .i64 (x.i : Int), ptrV x.b]) (KeepP P) (fun ys => ys = behN es ps es.length) (fun pre => pre <+: behN es ps es.length) (behN es ps es.length).length w := fun l J Jx W hW _ _ hY h0 =>
  beh1_in n hn l Ba P hPf hPa J Jx hY W ((hW.block Ba (lt_of_block hBa)).trans hBa) (har.below hW) hl h0

/-- The first of some entries that is of HTML and of a name. -/
def lastP {es : List EntM} {ps : List Nat} (nm : ByteArray) : List (BP es ps) → Int
  | [] => -1
  | y :: r => if kinB y.x.sp 0 y.x.nm nm = true then y.x.node else lastP nm r
theorem lastP_none {es : List EntM} {ps : List Nat} {nm : ByteArray} : ∀ {l : List (BP es ps)}, (∀ y ∈ l, kinB y.x.sp 0 y.x.nm nm = false) → lastP nm l = -1
  | [], _ => rfl
  | y :: r, h => by
    unfold lastP
    rw [if_neg (by rw [h y (by simp)]; decide)]
    exact lastP_none (fun z hz => h z (List.mem_cons_of_mem _ hz))
theorem lastP_some {es : List EntM} {ps : List Nat} {nm : ByteArray} : ∀ {l : List (BP es ps)} {y : BP es ps} {r : List (BP es ps)}, (∀ z ∈ l, kinB z.x.sp 0 z.x.nm nm = false) → kinB y.x.sp 0 y.x.nm nm = true → lastP nm (l ++ y :: r) = y.x.node
  | [], y, r, _, h => by simp only [List.nil_append, lastP]; rw [if_pos h]
  | z :: l, y, r, h, hy => by
    rw [List.cons_append, lastP, if_neg (by rw [h z (by simp)]; decide)]
    exact lastP_some (fun u hu => h u (List.mem_cons_of_mem _ hu)) hy

set_option maxRecDepth 100000 in
set_option maxHeartbeats 2000000 in
theorem llast_in {w : World} {base bL bA bW : Nat} {F : Nat → Prop} {v : Value} {ps : List Nat} {es : List EntM} (h : LiM w base bL bA bW F v ps es) (hl : es.length < 1000000000000) (nm : ByteArray) :
    CallsIn Fence.wide 4 Try.prog 33 #[.pointer (some ⟨bL, 0, none⟩), .string nm] w fun e w' => e = .returned (.int .i64 (lastP nm (behN es ps es.length))) ∧ Below w.heap.size w w' := by
  have hb2 := below_two w (.cells #[.string nm] 9) (.cells #[.int .i64 0] 3)
  have HM := hide (lmade_any (h.below hb2))
  have HH := hide h
  have HL := hide hl
  obtain ⟨h0, h1⟩ := (h.below hb2).cells
  clear h hl hb2
  refine callsIn_of_wp_marks Try.func33 rfl trivial ?_ rfl
  simp only [Try.ntmps33, List.size_toArray, List.length_cons, List.length_nil, Nat.reduceAdd, Nat.reduceSub, Array.replicate_succ, Array.replicate_zero, List.push_toArray, List.append_toArray, List.nil_append, List.cons_append]
  gi_wp2_with fail
  refine ⟨trivial, (callsIn_wide.2 (unhide HM)).mono ?_⟩
  rintro e w' ⟨rfl, rfl⟩
  gi_wp2_with fail
  refine ⟨trivial, (behind_in _ _ _).mono ?_⟩
  rintro e w' ⟨rfl, rfl⟩
  gi_wp2_with fail
  have c0 := cell_new_l w (.string nm) 9
  have c1 := cell_new_l (w.alloc (.cells #[.string nm] 9)) (.int .i64 0) 3
  simp only [World.size_alloc] at c1
  have hBa : (((w.alloc (.cells #[.string nm] 9)).alloc (.cells #[.int .i64 0] 3)).alloc (.cells #[.pointer (some ⟨bW, 0, none⟩)] 120)).heap[w.heap.size + 1 + 1]? = some (.cells #[.pointer (some ⟨bW, 0, none⟩)] 120 (0, 0)) := last_block _ _ _ (by simp)
  have hB0 : Below w.heap.size w (((w.alloc (.cells #[.string nm] 9)).alloc (.cells #[.int .i64 0] 3)).alloc (.cells #[.pointer (some ⟨bW, 0, none⟩)] 120)) := (((Below.refl _ w).alloc (Nat.le_refl _) _).alloc (by simp) _).alloc (by simp; omega) _
  have har := (unhide HH).row.below hB0
  have hPf : ∀ k, F k → k < w.heap.size ∨ k = w.heap.size + 1 + 1 := fun k hk => .inl ((unhide HH).row.lt k hk).2
  have hll := unhide HL
  refine wpIn_rangeFunc_ownF (w0 := (((w.alloc (.cells #[.string nm] 9)).alloc (.cells #[.int .i64 0] 3)).alloc (.cells #[.pointer (some ⟨bW, 0, none⟩)] 120))) rfl (by omega) (gf := 167) (lb := #[.pointer (some ⟨w.heap.size + 1 + 1, 0, none⟩)]) rfl trivial (enters_of Try.func167 (by kernel_rfl) rfl)
    (beh_stops 3 (by omega) (w.heap.size + 1 + 1) (fun k => k < w.heap.size ∨ k = w.heap.size + 1 + 1) hPf (.inr rfl) _ hBa har hll) keepP_t (keepP_b (by intro k hk; simp; omega)) (Below.refl _ _) (fun _ => rfl)
    (fun pre W => ((∀ y ∈ pre, kinB y.x.sp 0 y.x.nm nm = false) ∧ W.cell? ⟨w.heap.size, 0, none⟩ = some (.string nm) ∧ W.cell? ⟨w.heap.size + 1, 0, none⟩ = some (.int .i64 0) ∧ W.frozen? ⟨w.heap.size + 1, 0, none⟩ = false) ∧ Below w.heap.size w W)
    (fun c pre W => (c = .ret ∧ (∃ l y, pre = l ++ [y] ∧ (∀ z ∈ l, kinB z.x.sp 0 z.x.nm nm = false) ∧ kinB y.x.sp 0 y.x.nm nm = true ∧ W.cell? ⟨w.heap.size + 1, 0, none⟩ = some (.int .i64 y.x.node))) ∧ Below w.heap.size w W)
    (OwnFrom.and (Own.from (fun s A B row hs hg hr => ⟨hs.1, cell_kept hs.2.1 hg hr, cell_kept hs.2.2.1 hg hr, (frozen_kept hs.2.2.1 hg hr).trans hs.2.2.2⟩) _) (ownFrom_below (Nat.le_refl _) (by simp; omega)))
    (fun c => OwnFrom.and (Own.from (fun s A B row hs hg hr => by
      obtain ⟨e, l, y, h1, h2, h3, h4⟩ := hs
      exact ⟨e, l, y, h1, h2, h3, cell_kept h4 hg hr⟩) _) (ownFrom_below (Nat.le_refl _) (by simp; omega)))
    ⟨⟨by simp, cell_alloc_l _ (cell_alloc_l _ c0.1), cell_alloc_l _ c1.1, frozen_alloc_l _ c1.1 c1.2⟩, hB0⟩
    (fun x => { tmps := #[.pointer (some ⟨bL, 0, none⟩), .string nm, undef, .pointer (some ⟨w.heap.size, 0, none⟩), .pointer (some ⟨w.heap.size + 1, 0, none⟩), undef, ptrV x.b, .pointer (some ⟨bL, 0, none⟩), .bool true, .bool false, .pointer (some ⟨bL, 0, none⟩), .pointer (some ⟨bL, 0, none⟩), .pointer (some ⟨bL, 1, none⟩), .pointer (some ⟨bW, 0, none⟩), .func (.func 167) #[] #[.pointer (some ⟨w.heap.size + 1 + 1, 0, none⟩)], .int .i64 (x.i : Int), ptrV x.b, undef, undef, undef, undef, undef, undef, undef, undef, undef, undef, undef], defers := [] }) ?assign ?body ?done ?stop
  case assign =>
    intro l x W K hK
    gi_wp2
    exact hK
  case body =>
    rintro l pre x W ⟨⟨hp, hcw, hcr, hfr⟩, hB⟩ _
    clear c0 c1 hBa hB0 hPf har hll h0 h1
    have he := ((unhide HH).row.below hB).ents x.i x.b x.x x.hb x.hx
    obtain ⟨ao, ac, so, sc, hblk, _⟩ := he.lies
    have d0 : W.cell? ⟨x.b, 0, none⟩ = some (.int .i64 x.x.node) := cell_of_row _ _ 0 _ _ _ hblk
    have d1 : W.cell? ⟨x.b, 1, none⟩ = some (.int .i64 x.x.sp) := cell_of_row _ _ 1 _ _ _ hblk
    have d2 : W.cell? ⟨x.b, 2, none⟩ = some (.string x.x.nm) := cell_of_row _ _ 2 _ _ _ hblk
    have hgk := guardK
    have hk := fun W => eqlKin x.x.sp 0 x.x.nm nm W
    unfold ptrV
    clear he hblk
    cases hkk : kinB x.x.sp 0 x.x.nm nm with
    | true =>
      rw [hkk] at hk
      gi_wp2
      gi_region
      all_goals gi_wp2
      all_goals exact ⟨(KeepsOthers.drew _).trans (KeepsOthers.setCell _ _ _), ⟨rfl, pre, x, rfl, hp, hkk, World.cell?_setCell_same' W.drew _ _ (by rw [show W.drew.cell? ⟨w.heap.size + 1, 0, none⟩ = _ from hcr]; rfl)⟩, hB.drew.setCell (p := ⟨w.heap.size + 1, 0, none⟩) (by simp) _⟩
    | false =>
      rw [hkk] at hk
      gi_wp2
      gi_region
      all_goals gi_wp2
      all_goals exact ⟨KeepsOthers.drew _, fun _ _ => rfl, ⟨fun y hy => (List.mem_append.1 hy).elim (hp y) (fun e => by simp at e; subst e; exact hkk), hcw, hcr, hfr⟩, hB.drew⟩
  case done =>
    rintro D ys W hD rfl ⟨⟨hne, _, hcr, hfr⟩, hB⟩ hK
    clear c0 c1 hBa hB0 hPf har hll h0 h1
    gi_wp2
    have hK' := (KeepsOthers.setCell W ⟨w.heap.size + 1, 0, none⟩ (.int .i64 (-1))).same D _ hK rfl
    refine ⟨by simp, .inl ⟨_, _, rfl, run_takeDeferred hK', ?_⟩⟩
    have hc5 := cell_kept (World.cell?_setCell_same' W ⟨w.heap.size + 1, 0, none⟩ (.int .i64 (-1)) (by rw [hcr]; rfl)) (grownBy_putObj' _ D (.deferred none)) (fun r e => by cases e; exact ⟨_, hK', rfl⟩)
    refine ⟨.int .i64 (-1), ?_, by rw [lastP_none hne], (hB.setCell (p := ⟨w.heap.size + 1, 0, none⟩) (by simp) _).trans (belowK_b (w := w) (Nat.le_refl _) _ D _ _ (by simp at hD; omega) hK' rfl rfl)⟩
    simp [results, Try.results33, go_sem, hc5]
  case stop =>
    rintro D c pre W hD hpre ⟨⟨rfl, l, y, rfl, hl1, hl2, hcr⟩, hB⟩ hK
    clear c0 c1 hBa hB0 hPf har hll h0 h1
    gi_wp2
    refine ⟨by simp, .inl ⟨_, _, rfl, run_takeDeferred hK, ?_⟩⟩
    have hc5 := cell_kept hcr (grownBy_putObj' _ D (.deferred none)) (fun r e => by cases e; exact ⟨_, hK, rfl⟩)
    have hyes : lastP nm (behN es ps es.length) = y.x.node := by
      obtain ⟨t, ht⟩ := hpre
      rw [← ht, List.append_assoc]
      exact lastP_some hl1 hl2
    refine ⟨.int .i64 y.x.node, ?_, by rw [hyes], hB.trans (belowK_b (w := w) (Nat.le_refl _) W D _ _ (by simp at hD; omega) hK rfl rfl)⟩
    simp [results, Try.results33, go_sem, hc5]

theorem llast_any {w : World} {base bL bA bW : Nat} {F : Nat → Prop} {v : Value} {ps : List Nat} {es : List EntM} (h : LiM w base bL bA bW F v ps es) (hl : es.length < 1000000000000) (nm : ByteArray) :
    Calls Try.prog 33 #[.pointer (some ⟨bL, 0, none⟩), .string nm] w fun e w' => e = .returned (.int .i64 (lastP nm (behN es ps es.length))) ∧ Below w.heap.size w w' := callsIn_wide.1 (llast_in h hl nm)
end Go.Proofs.Ytdabgeippkmgaaa
