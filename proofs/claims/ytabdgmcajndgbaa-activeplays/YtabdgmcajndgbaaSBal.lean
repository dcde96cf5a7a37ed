/-
  Package active: a list in memory; where an element's entry stands. Package active: the entries behind the last marker, from the last one back; the last element of a name; how many are alike.
-/
import Derived.Test.YtabdgmcajndgbaaSBak
namespace Go.Proofs.Ytabdgmcajndgbaa
open Go.RowKit Go.Sort Go.Shelf
attribute [local go_sem] Oper.semAt_some

/-- A list at block bL of the arena at bA; its row in the blocks F. -/
structure LiM (w : World) (base bL bA bW : Nat) (F : Nat → Prop) (v : Value) (ps : List Nat) (es : List EntM) : Prop where
  box : w.heap[bL]? = some (.cells #[.pointer (some ⟨bA, 0, none⟩), .pointer (some ⟨bW, 0, none⟩)] 65 (0, 0))
  row : RowM w base bW F v ps es
  nl : ¬ F bL
  lo : base ≤ bL
def LiS (w : World) (base bL bA : Nat) (es : List EntM) (F : Nat → Prop) : Prop := ∃ bW v ps R, LiM w base bL bA bW R v ps es ∧ ∀ k, F k ↔ (k = bL ∨ R k)
def UpdL (F : Nat → Prop) (w w' : World) (base bL bA : Nat) (es : List EntM) : Prop := ∃ F', LiS w' base bL bA es F' ∧ Mod F w w' ∧ ∀ k, F' k → F k ∨ w.heap.size ≤ k

section
variable {w w' : World} {base bL bA bW : Nat} {F G : Nat → Prop} {v : Value} {ps : List Nat} {es : List EntM}
theorem LiM.mod (h : LiM w base bL bA bW F v ps es) (hm : Mod G w w') (hG : ∀ k, F k → ¬ G k) (hL : ¬ G bL) : LiM w' base bL bA bW F v ps es :=
  ⟨(hm.block bL (lt_of_block h.box) hL).trans h.box, h.row.mod hm hG, h.nl, h.lo⟩
theorem LiM.below (h : LiM w base bL bA bW F v ps es) (hb : Below w.heap.size w w') : LiM w' base bL bA bW F v ps es := h.mod (Mod.of_below (F := fun _ => False) hb) (fun _ _ e => e) (fun e => e)
theorem LiS.mod (h : LiS w base bL bA es F) (hm : Mod G w w') (hG : ∀ k, F k → ¬ G k) : LiS w' base bL bA es F := by
  obtain ⟨bW, v, ps, R, h, hF⟩ := h
  exact ⟨bW, v, ps, R, h.mod hm (fun k hk => hG k ((hF k).2 (.inr hk))) (hG _ ((hF _).2 (.inl rfl))), hF⟩
theorem LiS.below (h : LiS w base bL bA es F) (hb : Below w.heap.size w w') : LiS w' base bL bA es F := h.mod (Mod.of_below (F := fun _ => False) hb) (fun _ _ e => e)
theorem LiS.lt (h : LiS w base bL bA es F) {k : Nat} (hk : F k) : base ≤ k ∧ k < w.heap.size := by
  obtain ⟨bW, v, ps, R, h, hF⟩ := h
  rcases (hF k).1 hk with e | e
  · subst e; exact ⟨h.lo, lt_of_block h.box⟩
  · exact h.row.lt k e
/-- What a method of the row makes of the list. -/
theorem LiM.upd (h : LiM w base bL bA bW F v ps es) {FL : Nat → Prop} (hF : ∀ k, FL k ↔ (k = bL ∨ F k)) {es2 : List EntM} (hu : UpdW F w w' base bW es2) : UpdL FL w w' base bL bA es2 := by
  obtain ⟨F', ⟨v', ps', h1⟩, h2, h3⟩ := hu
  have hn : ¬ F' bL := fun e => by
    rcases h3 _ e with e | e
    · exact h.nl e
    · have := lt_of_block h.box; omega
  refine ⟨fun k => k = bL ∨ F' k, ⟨bW, v', ps', F', ⟨(h2.block bL (lt_of_block h.box) h.nl).trans h.box, h1, hn, h.lo⟩, fun _ => Iff.rfl⟩, h2.mono (fun k _ e => (hF k).2 (.inr e)), ?_⟩
  rintro k (e | e)
  · exact .inl ((hF k).2 (.inl e))
  · exact (h3 k e).imp (fun e => (hF k).2 (.inr e)) id
theorem UpdL.after {w1 : World} (hb : Below w.heap.size w w1) (h : UpdL F w1 w' base bL bA es) : UpdL F w w' base bL bA es := by
  obtain ⟨F', h1, h2, h3⟩ := h
  exact ⟨F', h1, (Mod.of_below hb).trans h2, fun k hk => (h3 k hk).imp id (fun h => Nat.le_trans hb.size h)⟩
theorem LiS.upd (h : LiS w base bL bA es F) (hb : Below w.heap.size w w') : UpdL F w w' base bL bA es := ⟨F, h.below hb, Mod.of_below hb, fun _ hk => .inl hk⟩
theorem LiM.cells (h : LiM w base bL bA bW F v ps es) : w.cell? ⟨bL, 0, none⟩ = some (.pointer (some ⟨bA, 0, none⟩)) ∧ w.cell? ⟨bL, 1, none⟩ = some (.pointer (some ⟨bW, 0, none⟩)) :=
  ⟨cell_of_row _ _ 0 _ _ _ h.box, cell_of_row _ _ 1 _ _ _ h.box⟩
theorem lmade_any (h : LiM w base bL bA bW F v ps es) : Calls Try.prog 34 #[.pointer (some ⟨bL, 0, none⟩)] w fun e w' => e = .returned (.bool true) ∧ w = w' := by
  obtain ⟨h0, h1⟩ := h.cells
  clear h
  go_enter Try.func34, Try.ntmps34
  go_wp2
  go_ret
  exact ⟨rfl, rfl⟩
theorem llen_any (h : LiM w base bL bA bW F v ps es) : Calls Try.prog 8 #[.pointer (some ⟨bL, 0, none⟩)] w fun e w' => e = .returned (.int .i64 es.length) ∧ w = w' := by
  obtain ⟨h0, h1⟩ := h.cells
  have HM := hide (lmade_any h)
  have HS := hide (rsize_any h.row)
  clear h
  go_enter Try.func8, Try.ntmps8
  go_wp2_with (first | (go_at_call 34; refine (unhide HM).mono ?_; rintro e w1 ⟨rfl, rfl⟩) | (go_at_call 35; refine (unhide HS).mono ?_; rintro e w1 ⟨rfl, rfl⟩))
  go_ret
  exact ⟨rfl, rfl⟩
end

theorem elements_in (n : Nat) (bW : Nat) (w : World) :
    CallsIn Fence.wide n Try.prog 36 #[.pointer (some ⟨bW, 0, none⟩)] w fun e w' => e = .returned (.func (.func 60) #[] #[.pointer (some ⟨w.heap.size, 0, none⟩)]) ∧ w' = w.alloc (.cells #[.pointer (some ⟨bW, 0, none⟩)] 60) := by
  refine callsIn_of_wp Try.func36 rfl trivial ?_ rfl
  simp only [Try.ntmps36, List.size_toArray, List.length_cons, List.length_nil, Nat.reduceAdd, Nat.reduceSub, Array.replicate_succ, Array.replicate_zero, List.push_toArray, List.append_toArray, List.nil_append, List.cons_append]
  gi_wp2
  go_ret
  exact ⟨rfl, rfl⟩

theorem elem_stops {base bW : Nat} {F : Nat → Prop} {v : Value} {ps : List Nat} {es : List EntM} (n : Nat) (hn : 1 ≤ n) (Ba : Nat) (P : Nat → Prop) (hPf : ∀ k, F k → P k)
    (w : World) (hBa : w.heap[Ba]? = some (.cells #[.pointer (some ⟨bW, 0, none⟩)] 60 (0, 0))) (har : RowM w base bW F v ps es) (hl : es.length < 1000000000000) :
    SeqStopsK Fence.wide n Try.prog 60 #[.pointer (some ⟨Ba, 0, none⟩)] (fun x : Nat × Int => #[Value.int .i64 (x.1 : Int), .int .i64 x.2]) (KeepP P) (fun ys => ys = pairsN es es.length) (fun pre => pre <+: pairsN es es.length) (pairsN es es.length).length w := fun l J Jx W hW _ _ hY h0 =>
  elem1_in n hn l Ba P hPf J Jx hY W ((hW.block Ba (lt_of_block hBa)).trans hBa) (har.below hW) hl h0

theorem cell_of_box_l {W : World} {B : Nat} {v : Value} {t : TypeId} (h : W.heap[B]? = some (.cells #[v] t (0, 0))) : W.cell? ⟨B, 0, none⟩ = some v ∧ W.frozen? ⟨B, 0, none⟩ = false := by
  constructor <;> simp [World.cell?, World.frozen?, h]
theorem cell_new_l (W : World) (v : Value) (t : TypeId) : (W.alloc (.cells #[v] t)).cell? ⟨W.heap.size, 0, none⟩ = some v ∧ (W.alloc (.cells #[v] t)).frozen? ⟨W.heap.size, 0, none⟩ = false :=
  cell_of_box_l (World.alloc_heap_new W _)
theorem cell_alloc_l {W : World} {a : Addr} {v : Value} (o : Obj) (h : W.cell? a = some v) : (W.alloc o).cell? a = some v := cell_kept h (World.grownBy_alloc W o none) (fun r e => by cases e)
theorem frozen_alloc_l {W : World} {a : Addr} {v : Value} (o : Obj) (h : W.cell? a = some v) (hf : W.frozen? a = false) : (W.alloc o).frozen? a = false := (frozen_kept h (World.grownBy_alloc W o none) (fun r e => by cases e)).trans hf

/-- The place that stands with a number first. -/
def findP (id : Int) : List (Nat × Int) → Int
  | [] => -1
  | (i, x) :: r => if x = id then (i : Int) else findP id r
theorem findP_none {id : Int} : ∀ {l : List (Nat × Int)}, (∀ y ∈ l, y.2 ≠ id) → findP id l = -1
  | [], _ => rfl
  | (i, x) :: r, h => by
    unfold findP
    rw [if_neg (h (i, x) (by simp))]
    exact findP_none (fun y hy => h y (List.mem_cons_of_mem _ hy))
theorem findP_some {id : Int} : ∀ {l : List (Nat × Int)} {y : Nat × Int} {r : List (Nat × Int)}, (∀ z ∈ l, z.2 ≠ id) → y.2 = id → findP id (l ++ y :: r) = (y.1 : Int)
  | [], (i, x), r, _, h => by simp only [List.nil_append, findP]; rw [if_pos h]
  | (i, x) :: l, y, r, h, hy => by
    rw [List.cons_append, findP, if_neg (h (i, x) (by simp))]
    exact findP_some (fun z hz => h z (List.mem_cons_of_mem _ hz)) hy

set_option maxRecDepth 100000 in
set_option maxHeartbeats 2000000 in
theorem lfind_in {w : World} {base bL bA bW : Nat} {F : Nat → Prop} {v : Value} {ps : List Nat} {es : List EntM} (h : LiM w base bL bA bW F v ps es) (hl : es.length < 1000000000000) (id : Int) :
    CallsIn Fence.wide 4 Try.prog 9 #[.pointer (some ⟨bL, 0, none⟩), .int .i64 id] w fun e w' => e = .returned (.int .i64 (findP id (pairsN es es.length))) ∧ Below w.heap.size w w' := by
  have hb2 := below_two w (.cells #[.int .i64 id] 3) (.cells #[.int .i64 0] 3)
  have HM := hide (lmade_any (h.below hb2))
  have HH := hide h
  have HL := hide hl
  obtain ⟨h0, h1⟩ := (h.below hb2).cells
  clear h hl hb2
  refine callsIn_of_wp_marks Try.func9 rfl trivial ?_ rfl
  simp only [Try.ntmps9, List.size_toArray, List.length_cons, List.length_nil, Nat.reduceAdd, Nat.reduceSub, Array.replicate_succ, Array.replicate_zero, List.push_toArray, List.append_toArray, List.nil_append, List.cons_append]
  gi_wp2_with fail
  refine ⟨trivial, (callsIn_wide.2 (unhide HM)).mono ?_⟩
  rintro e w' ⟨rfl, rfl⟩
  gi_wp2_with fail
  refine ⟨trivial, (elements_in _ _ _).mono ?_⟩
  rintro e w' ⟨rfl, rfl⟩
  gi_wp2_with fail
  have c0 := cell_new_l w (.int .i64 id) 3
  have c1 := cell_new_l (w.alloc (.cells #[.int .i64 id] 3)) (.int .i64 0) 3
  simp only [World.size_alloc] at c1
  have hBa : (((w.alloc (.cells #[.int .i64 id] 3)).alloc (.cells #[.int .i64 0] 3)).alloc (.cells #[.pointer (some ⟨bW, 0, none⟩)] 60)).heap[w.heap.size + 1 + 1]? = some (.cells #[.pointer (some ⟨bW, 0, none⟩)] 60 (0, 0)) := last_block _ _ _ (by simp)
  have hB0 : Below w.heap.size w (((w.alloc (.cells #[.int .i64 id] 3)).alloc (.cells #[.int .i64 0] 3)).alloc (.cells #[.pointer (some ⟨bW, 0, none⟩)] 60)) := (((Below.refl _ w).alloc (Nat.le_refl _) _).alloc (by simp) _).alloc (by simp; omega) _
  have har := (unhide HH).row.below hB0
  have hPf : ∀ k, F k → k < w.heap.size := fun k hk => ((unhide HH).row.lt k hk).2
  have hll := unhide HL
  refine wpIn_rangeFunc_ownF (w0 := (((w.alloc (.cells #[.int .i64 id] 3)).alloc (.cells #[.int .i64 0] 3)).alloc (.cells #[.pointer (some ⟨bW, 0, none⟩)] 60))) rfl (by omega) (gf := 60) (lb := #[.pointer (some ⟨w.heap.size + 1 + 1, 0, none⟩)]) rfl trivial (enters_of Try.func60 (by kernel_rfl) rfl)
    (elem_stops 3 (by omega) (w.heap.size + 1 + 1) (fun k => k < w.heap.size) hPf _ hBa har hll) keepP_t (keepP_b (by intro k hk; simp; omega)) (Below.refl _ _) (fun _ => rfl)
    (fun pre W => ((∀ y ∈ pre, y.2 ≠ id) ∧ W.cell? ⟨w.heap.size, 0, none⟩ = some (.int .i64 id) ∧ W.cell? ⟨w.heap.size + 1, 0, none⟩ = some (.int .i64 0) ∧ W.frozen? ⟨w.heap.size + 1, 0, none⟩ = false) ∧ Below w.heap.size w W)
    (fun c pre W => (c = .ret ∧ (∃ l y, pre = l ++ [y] ∧ (∀ z ∈ l, z.2 ≠ id) ∧ y.2 = id ∧ W.cell? ⟨w.heap.size + 1, 0, none⟩ = some (.int .i64 (y.1 : Int)))) ∧ Below w.heap.size w W)
    (OwnFrom.and (Own.from (fun s A B row hs hg hr => ⟨hs.1, cell_kept hs.2.1 hg hr, cell_kept hs.2.2.1 hg hr, (frozen_kept hs.2.2.1 hg hr).trans hs.2.2.2⟩) _) (ownFrom_below (Nat.le_refl _) (by simp; omega)))
    (fun c => OwnFrom.and (Own.from (fun s A B row hs hg hr => by
      obtain ⟨e, l, y, h1, h2, h3, h4⟩ := hs
      exact ⟨e, l, y, h1, h2, h3, cell_kept h4 hg hr⟩) _) (ownFrom_below (Nat.le_refl _) (by simp; omega)))
    ⟨⟨by simp, cell_alloc_l _ (cell_alloc_l _ c0.1), cell_alloc_l _ c1.1, frozen_alloc_l _ c1.1 c1.2⟩, hB0⟩
    (fun x => { tmps := #[.pointer (some ⟨bL, 0, none⟩), .int .i64 id, undef, .pointer (some ⟨w.heap.size, 0, none⟩), .pointer (some ⟨w.heap.size + 1, 0, none⟩), .int .i64 (x.1 : Int), .int .i64 x.2, .pointer (some ⟨bL, 0, none⟩), .bool true, .bool false, .pointer (some ⟨bL, 0, none⟩), .pointer (some ⟨bL, 0, none⟩), .pointer (some ⟨bL, 1, none⟩), .pointer (some ⟨bW, 0, none⟩), .func (.func 60) #[] #[.pointer (some ⟨w.heap.size + 1 + 1, 0, none⟩)], .int .i64 (x.1 : Int), .int .i64 x.2, undef, undef, undef, undef], defers := [] }) ?assign ?body ?done ?stop
  case assign =>
    intro l x W K hK
    gi_wp2
    exact hK
  case body =>
    rintro l pre x W ⟨⟨hp, hcw, hcr, hfr⟩, hB⟩ _
    clear c0 c1 hBa hB0 hPf har hll h0 h1
    gi_wp2
    · rename_i hx
      have hx' : x.2 = id := eq_of_beq hx
      exact ⟨KeepsOthers.setCell _ _ _, ⟨rfl, pre, x, rfl, hp, hx', World.cell?_setCell_same' _ _ _ (by rw [hcr]; rfl)⟩, hB.setCell (p := ⟨w.heap.size + 1, 0, none⟩) (by simp) _⟩
    · rename_i hx
      have hx' : x.2 ≠ id := ne_of_beq_false hx
      exact ⟨KeepsOthers.refl _, fun _ _ => rfl, ⟨fun y hy => (List.mem_append.1 hy).elim (hp y) (fun e => by simp at e; subst e; exact hx'), hcw, hcr, hfr⟩, hB⟩
  case done =>
    rintro D ys W hD rfl ⟨⟨hne, _, hcr, hfr⟩, hB⟩ hK
    clear c0 c1 hBa hB0 hPf har hll h0 h1
    gi_wp2
    have hK' := (KeepsOthers.setCell W ⟨w.heap.size + 1, 0, none⟩ (.int .i64 (-1))).same D _ hK rfl
    refine ⟨by simp, .inl ⟨_, _, rfl, run_takeDeferred hK', ?_⟩⟩
    have hc5 := cell_kept (World.cell?_setCell_same' W ⟨w.heap.size + 1, 0, none⟩ (.int .i64 (-1)) (by rw [hcr]; rfl)) (grownBy_putObj' _ D (.deferred none)) (fun r e => by cases e; exact ⟨_, hK', rfl⟩)
    refine ⟨.int .i64 (-1), ?_, by rw [findP_none hne], (hB.setCell (p := ⟨w.heap.size + 1, 0, none⟩) (by simp) _).trans (belowK_b (w := w) (Nat.le_refl _) _ D _ _ (by simp at hD; omega) hK' rfl rfl)⟩
    simp [results, Try.results9, go_sem, hc5]
  case stop =>
    rintro D c pre W hD hpre ⟨⟨rfl, l, y, rfl, hl1, hl2, hcr⟩, hB⟩ hK
    clear c0 c1 hBa hB0 hPf har hll h0 h1
    gi_wp2
    refine ⟨by simp, .inl ⟨_, _, rfl, run_takeDeferred hK, ?_⟩⟩
    have hc5 := cell_kept hcr (grownBy_putObj' _ D (.deferred none)) (fun r e => by cases e; exact ⟨_, hK, rfl⟩)
    have hyes : findP id (pairsN es es.length) = (y.1 : Int) := by
      obtain ⟨t, ht⟩ := hpre
      rw [← ht, List.append_assoc]
      exact findP_some hl1 hl2
    refine ⟨.int .i64 (y.1 : Int), ?_, by rw [hyes], hB.trans (belowK_b (w := w) (Nat.le_refl _) W D _ _ (by simp at hD; omega) hK rfl rfl)⟩
    simp [results, Try.results9, go_sem, hc5]

theorem lfind_any {w : World} {base bL bA bW : Nat} {F : Nat → Prop} {v : Value} {ps : List Nat} {es : List EntM} (h : LiM w base bL bA bW F v ps es) (hl : es.length < 1000000000000) (id : Int) :
    Calls Try.prog 9 #[.pointer (some ⟨bL, 0, none⟩), .int .i64 id] w fun e w' => e = .returned (.int .i64 (findP id (pairsN es es.length))) ∧ Below w.heap.size w w' := callsIn_wide.1 (lfind_in h hl id)
end Go.Proofs.Ytabdgmcajndgbaa

namespace Go.Proofs.Ytabdgmcajndgbaa
open Go.RowKit Go.Sort Go.Shelf
attribute [local go_sem] Oper.semAt_some

/-- An entry of a row: its place there, its place in memory. -/
structure BP (es : List EntM) (ps : List Nat) where
  i : Nat
  b : Nat
  x : EntM
  hx : es[i]? = some x
  hb : ps[i]? = some b
/-- The entries behind the last marker among the first ones, from the last one back. -/
def behN (es : List EntM) (ps : List Nat) : Nat → List (BP es ps)
  | 0 => []
  | i + 1 => match hx : es[i]?, hb : ps[i]? with
    | some x, some b => if x.node = -1 then [] else ⟨i, b, x, hx, hb⟩ :: behN es ps i
    | _, _ => []
theorem behN_succ {es : List EntM} {ps : List Nat} {i b : Nat} {x : EntM} (hx : es[i]? = some x) (hb : ps[i]? = some b) : behN es ps (i + 1) = if x.node = -1 then [] else ⟨i, b, x, hx, hb⟩ :: behN es ps i := by
  conv => lhs; unfold behN
  split
  · rename_i x' b' hx' hb'
    have e1 : x' = x := by rw [hx'] at hx; exact Option.some.inj hx
    have e2 : b' = b := by rw [hb'] at hb; exact Option.some.inj hb
    subst e1 e2
    rfl
  · rename_i h
    exact (h x b hx hb).elim

set_option maxRecDepth 100000 in
set_option maxHeartbeats 1000000 in
theorem beh1_in {base bW : Nat} {F : Nat → Prop} {v : Value} {ps : List Nat} {es : List EntM} (n : Nat) (hn : 1 ≤ n) (l Ba : Nat) (P : Nat → Prop) (hPf : ∀ k, F k → P k) (hPa : P Ba) (J Jx : List (BP es ps) → World → Prop)
    (hY : ∀ pre x W, J pre W → pre.length < (behN es ps es.length).length → YieldAt Fence.wide (n - 1) Try.prog l #[.int .i64 ((x : BP es ps).i : Int), ptrV x.b] W fun e W' =>
      (e = .returned (.bool true) ∧ J (pre ++ [x]) W' ∧ KeepP P W W') ∨ (e = .returned (.bool false) ∧ Jx (pre ++ [x]) W'))
    (W : World) (hBa : W.heap[Ba]? = some (.cells #[.pointer (some ⟨bW, 0, none⟩)] 60 (0, 0))) (har : RowM W base bW F v ps es) (hl : es.length < 1000000000000)
    (h0 : J [] W) :
    CallsIn Fence.wide n Try.prog 70 #[.func (.yield l) #[] #[], .pointer (some ⟨Ba, 0, none⟩)] W fun e W' => (∃ v, e = .returned v) ∧
      ((∃ ys, ys = behN es ps es.length ∧ J ys W') ∨ (∃ pre, pre <+: behN es ps es.length ∧ Jx pre W')) := by
  have hcB := cell_of_one hBa
  have hcW := har.cell
  obtain ⟨va, vc, hv⟩ : ∃ va vc, v = .slice va es.length vc := by
    have := har.len
    rcases har.val with ⟨e, e2⟩ | ⟨g, cap, e⟩
    · subst e2; simp at this; exact ⟨none, 0, by rw [e, ← this]⟩
    · exact ⟨_, _, by rw [e, this]⟩
  subst hv
  have hwl : IntKind.i64.wrap ((es.length : Int) - 1) = (es.length : Int) - 1 := by rw [IntKind.wrap_i64]; omega
  refine callsIn_of_wp Try.func70 rfl trivial ?_ rfl
  simp only [Try.ntmps70, List.size_toArray, List.length_cons, List.length_nil, Nat.reduceAdd, Nat.reduceSub, Array.replicate_succ, Array.replicate_zero, List.push_toArray, List.append_toArray, List.nil_append, List.cons_append]
  have HBA := hide hBa
  have HAR := hide har
  have HL := hide hl
  clear hBa har hl
  gi_wp2
  clear hcB hcW
  gi_loopw [3] (fun p wr => ∃ (m : Nat) (pre : List (BP es ps)), p = .int .i64 ((m : Int) - 1) ∧ m ≤ es.length ∧ pre ++ behN es ps m = behN es ps es.length ∧ J pre wr ∧ RowM wr base bW F (.slice va es.length vc) ps es ∧ wr.heap[Ba]? = some (.cells #[.pointer (some ⟨bW, 0, none⟩)] 60 (0, 0)))
    (fun p _ => (intOf p + 1).toNat)
  case atStart => exact ⟨es.length, [], by go_num, Nat.le_refl _, rfl, h0, unhide HAR, unhide HBA⟩
  case round =>
    obtain ⟨m, pre, rfl, hm, hpre, hJ, hrow, hba⟩ := hrel
    have HJ := hide hJ
    have HR := hide hrow
    have HB := hide hba
    have HP := hide hpre
    have hcB := cell_of_one hba
    have hcW := hrow.cell
    clear hJ hrow hba hpre
    cases m with
    | zero =>
      have hm1 : ((0 : Nat) : Int) - 1 = -1 := by omega
      rw [hm1]
      clear hm1
      gi_wp2
      go_end0
      have e := unhide HP
      simp only [behN, List.append_nil] at e
      exact ⟨⟨_, rfl⟩, .inl ⟨pre, e, unhide HJ⟩⟩
    | succ i =>
      have hm1 : ((i + 1 : Nat) : Int) - 1 = (i : Int) := by omega
      rw [hm1]
      have hmz : (i : Int) < (es.length : Int) := by omega
      have hm0 : (0 : Int) ≤ (i : Int) := by omega
      have hwi : IntKind.i64.wrap ((i : Int) - 1) = (i : Int) - 1 := by rw [IntKind.wrap_i64]; have := unhide HL; omega
      obtain ⟨x, hx⟩ : ∃ x, es[i]? = some x := ⟨_, List.getElem?_eq_getElem (by omega)⟩
      obtain ⟨g, cap, b, e, hg, hb, he⟩ := (unhide HR).at hx
      cases e
      unfold ptrV at hg
      have HM := hide (isMarker_any he)
      have HS : Hid (behN es ps (i + 1) = if x.node = -1 then [] else ⟨i, b, x, hx, hb⟩ :: behN es ps i) := hide (behN_succ hx hb)
      have hbx : ∃ p : BP es ps, p = ⟨i, b, x, hx, hb⟩ := ⟨_, rfl⟩
      obtain ⟨p, hp⟩ := hbx
      rw [← hp] at HS
      have hpi : p.i = i := by rw [hp]
      have hpb : p.b = b := by rw [hp]
      clear hm1 he hp
      cases hmk : (x.node == -1) with
      | true =>
        have e1 : x.node = -1 := eq_of_beq hmk
        rw [hmk] at HM
        rw [if_pos e1] at HS
        clear hmk e1 hpi hpb hx hb
        gi_wp2_with fail
        refine ⟨trivial, (callsIn_wide.2 (unhide HM)).mono ?_⟩
        rintro e w1 ⟨rfl, rfl⟩
        gi_wp2
        refine ⟨fun _ _ => trivial, ?_⟩
        gi_wp2
        refine bodyPost_ret (results_none rfl _ _ _) rfl ?_
        have e := unhide HP
        rw [unhide HS, List.append_nil] at e
        exact ⟨⟨_, rfl⟩, .inl ⟨pre, e, unhide HJ⟩⟩
      | false =>
        have e1 : ¬ x.node = -1 := ne_of_beq_false hmk
        rw [hmk] at HM
        rw [if_neg e1] at HS
        clear hmk e1
        have hlen : pre.length < (behN es ps es.length).length := by
          rw [← unhide HP, unhide HS]; simp
        obtain ⟨fn, tmps, assign, body, hy, hR⟩ := hY pre p wr (unhide HJ) hlen
        rw [hpi, hpb] at hy
        clear hpi hpb
        unfold ptrV at hy
        clear hlen hx hb
        gi_wp2_with fail
        refine ⟨trivial, (callsIn_wide.2 (unhide HM)).mono ?_⟩
        rintro e w1 ⟨rfl, rfl⟩
        gi_wp2
        refine hR.mono ?_
        rintro e W3 (⟨rfl, hJ3, hk3⟩ | ⟨rfl, hJx3⟩)
        · have har3 := (unhide HR).keepP hPf hk3
          have hba3 := (hk3 Ba hPa).trans (unhide HB)
          have HA3 := hide har3
          have HJ3 := hide hJ3
          have HB3 := hide hba3
          clear har3 hJ3 hba3
          gi_wp2
          go_roundw
          case rel => exact ⟨i, pre ++ [p], by go_num, by omega, by rw [← unhide HP, unhide HS]; simp, unhide HJ3, unhide HA3, unhide HB3⟩
          case measure => simp only [intOf]; omega
        · gi_wp2
          refine bodyPost_ret (results_none rfl _ _ _) rfl ?_
          exact ⟨⟨_, rfl⟩, .inr ⟨pre ++ [p], ⟨behN es ps i, by rw [← unhide HP, unhide HS]; simp⟩, hJx3⟩⟩
end Go.Proofs.Ytabdgmcajndgbaa
