/-
  Package active: which entry goes if another comes.
-/
import Derived.Test.YtdabgeippkmgaaaLo
namespace Go.Proofs.Ytdabgeippkmgaaa
open Go.RowKit Go.Sort Go.Shelf
attribute [local go_sem] Oper.semAt_some

/-- Of some entries: the last that is alike to one, and how many are. -/
def scanP {es : List EntM} {ps : List Nat} (x : EntM) (l : List (BP es ps)) : Int × Int := l.foldl (fun s y => if alikeM x y.x = true then ((y.i : Int), s.2 + 1) else s) (-1, 0)
theorem scanP_snoc {es : List EntM} {ps : List Nat} (x : EntM) (l : List (BP es ps)) (y : BP es ps) : scanP x (l ++ [y]) = if alikeM x y.x = true then ((y.i : Int), (scanP x l).2 + 1) else scanP x l := by
  unfold scanP
  rw [List.foldl_append]
  rfl
theorem scanP_le {es : List EntM} {ps : List Nat} (x : EntM) (l : List (BP es ps)) : 0 ≤ (scanP x l).2 ∧ (scanP x l).2 ≤ (l.length : Int) := by
  have key : ∀ (n : Nat) (l : List (BP es ps)), l.length = n → 0 ≤ (scanP x l).2 ∧ (scanP x l).2 ≤ (l.length : Int) := by
    intro n
    induction n with
    | zero =>
      intro l hl
      obtain rfl : l = [] := List.eq_nil_of_length_eq_zero hl
      simp [scanP]
    | succ n ih =>
      intro l hl
      have hne : l ≠ [] := by intro e; subst e; simp at hl
      have e := List.dropLast_concat_getLast hne
      have ih2 := ih l.dropLast (by simp; omega)
      rw [← e, scanP_snoc, List.length_append]
      split <;> simp at ih2 ⊢ <;> omega
  exact key _ l rfl
def surP {es : List EntM} {ps : List Nat} (x : EntM) (l : List (BP es ps)) : Int := if (scanP x l).2 < 3 then -1 else (scanP x l).1

theorem behN_len (es : List EntM) (ps : List Nat) : ∀ n, (behN es ps n).length ≤ n
  | 0 => by simp [behN]
  | n + 1 => by
    have ih := behN_len es ps n
    conv => lhs; unfold behN
    split
    · split
      · simp
      · simp; omega
    · simp

set_option maxRecDepth 100000 in
set_option maxHeartbeats 4000000 in
theorem surplus_in {w : World} {base bW bx : Nat} {F FX : Nat → Prop} {v : Value} {ps : List Nat} {es : List EntM} {x : EntM} (h : RowM w base bW F v ps es) (hx : EntIn w FX bx x) (hfx : ∀ k, FX k → k < w.heap.size) (hl : es.length < 1000000000000) :
    CallsIn Fence.wide 4 Try.prog 100 #[.pointer (some ⟨bW, 0, none⟩), ptrV bx] w fun e w' => e = .returned (.int .i64 (surP x (behN es ps es.length))) ∧ Below w.heap.size w w' := by
  have HH := hide h
  have HX := hide hx
  have HFX := hide hfx
  have HL := hide hl
  clear h hx hfx hl
  unfold ptrV
  refine callsIn_of_wp_marks Try.func100 rfl trivial ?_ rfl
  simp only [Try.ntmps100, List.size_toArray, List.length_cons, List.length_nil, Nat.reduceAdd, Nat.reduceSub, Array.replicate_succ, Array.replicate_zero, List.push_toArray, List.append_toArray, List.nil_append, List.cons_append]
  gi_wp2_with fail
  refine ⟨trivial, (behind_in _ _ _).mono ?_⟩
  rintro e w' ⟨rfl, rfl⟩
  gi_wp2_with fail
  have c0 := Boxed.new w 132 (.pointer (some ⟨bx, 0, none⟩))
  have c1 := Boxed.new (w.alloc (.cells #[.pointer (some ⟨bx, 0, none⟩)] 132)) 3 (.int .i64 (-1))
  have c2 := Boxed.new ((w.alloc (.cells #[.pointer (some ⟨bx, 0, none⟩)] 132)).alloc (.cells #[.int .i64 (-1)] 3)) 3 (.int .i64 0)
  simp only [World.size_alloc] at c1 c2
  have hBa : ((((w.alloc (.cells #[.pointer (some ⟨bx, 0, none⟩)] 132)).alloc (.cells #[.int .i64 (-1)] 3)).alloc (.cells #[.int .i64 0] 3)).alloc (.cells #[.pointer (some ⟨bW, 0, none⟩)] 120)).heap[w.heap.size + 1 + 1 + 1]? = some (.cells #[.pointer (some ⟨bW, 0, none⟩)] 120 (0, 0)) := last_block _ _ _ (by simp)
  have hB0 : Below w.heap.size w ((((w.alloc (.cells #[.pointer (some ⟨bx, 0, none⟩)] 132)).alloc (.cells #[.int .i64 (-1)] 3)).alloc (.cells #[.int .i64 0] 3)).alloc (.cells #[.pointer (some ⟨bW, 0, none⟩)] 120)) := ((((Below.refl _ w).alloc (Nat.le_refl _) _).alloc (by simp) _).alloc (by simp; omega) _).alloc (by simp; omega) _
  have har := (unhide HH).below hB0
  have hPf : ∀ k, F k → k < w.heap.size ∨ k = w.heap.size + 1 + 1 + 1 := fun k hk => .inl ((unhide HH).lt k hk).2
  have hll := unhide HL
  have hnl := behN_len es ps es.length
  have HNL := hide hnl
  clear hnl
  refine wpIn_rangeFunc_ownF (w0 := ((((w.alloc (.cells #[.pointer (some ⟨bx, 0, none⟩)] 132)).alloc (.cells #[.int .i64 (-1)] 3)).alloc (.cells #[.int .i64 0] 3)).alloc (.cells #[.pointer (some ⟨bW, 0, none⟩)] 120))) rfl (by omega) (gf := 167) (lb := #[.pointer (some ⟨w.heap.size + 1 + 1 + 1, 0, none⟩)]) rfl trivial (enters_of Try.func167 (by kernel_rfl) rfl)
    (beh_stops 3 (by omega) (w.heap.size + 1 + 1 + 1) (fun k => k < w.heap.size ∨ k = w.heap.size + 1 + 1 + 1) hPf (.inr rfl) _ hBa har hll) keepP_t (keepP_b (by intro k hk; simp; omega)) (Below.refl _ _) (fun _ => rfl)
    (fun pre W => ((Boxed W w.heap.size 132 (.pointer (some ⟨bx, 0, none⟩)) ∧ Boxed W (w.heap.size + 1) 3 (.int .i64 (scanP x pre).1)) ∧ Boxed W (w.heap.size + 1 + 1) 3 (.int .i64 (scanP x pre).2)) ∧ Below w.heap.size w W)
    (fun _ _ _ => False)
    (OwnFrom.and (OwnFrom.and (OwnFrom.and (Own.from (boxed_own w.heap.size 132 (fun _ => .pointer (some ⟨bx, 0, none⟩))) _) (Own.from (boxed_own (w.heap.size + 1) 3 (fun pre => .int .i64 (scanP x pre).1)) _)) (Own.from (boxed_own (w.heap.size + 1 + 1) 3 (fun pre => .int .i64 (scanP x pre).2)) _)) (ownFrom_below (Nat.le_refl _) (by simp; omega)))
    (fun _ _ _ _ _ hs _ _ => hs)
    ⟨⟨⟨((c0.alloc _).alloc _).alloc _, (c1.alloc _).alloc _⟩, c2.alloc _⟩, hB0⟩
    (fun y => { tmps := #[.pointer (some ⟨bW, 0, none⟩), .pointer (some ⟨bx, 0, none⟩), undef, .pointer (some ⟨w.heap.size, 0, none⟩), .int .i64 0, .pointer (some ⟨w.heap.size + 1, 0, none⟩), .pointer (some ⟨w.heap.size + 1 + 1, 0, none⟩), .int .i64 (y.i : Int), ptrV y.b, .pointer (some ⟨bW, 0, none⟩), .func (.func 167) #[] #[.pointer (some ⟨w.heap.size + 1 + 1 + 1, 0, none⟩)], .int .i64 (y.i : Int), ptrV y.b, undef, undef, undef, undef, undef, undef, undef, undef, undef], defers := [] }) ?assign ?body ?done ?stop
  case assign =>
    intro l x W K hK
    gi_wp2
    exact hK
  case body =>
    rintro l pre y W ⟨⟨⟨bX, bE⟩, bN⟩, hB⟩ hpl
    have hcx := cell_of_one bX
    have hce := cell_of_one bE
    have hfe := free_of_one bE
    have hcn := cell_of_one bN
    have hfn := free_of_one bN
    have BX := hide bX
    have BE := hide bE
    have BN := hide bN
    clear bX bE bN
    clear c0 c1 c2 hBa hB0 hPf har
    have hsz := hB.size
    have he : EntIn W (fun k => F k ∨ FX k) y.b y.x := (((unhide HH).below hB).ents y.i y.b y.x y.hb y.hx).wide (fun k hk => .inl hk)
    have hex : EntIn W (fun k => F k ∨ FX k) bx x := ((unhide HX).mod (Mod.of_below (F := fun _ => False) hB) (fun _ _ e => e)).wide (fun k hk => .inr hk)
    have HA := hide (alike_any hex he)
    have hsl := scanP_le x pre
    have hn2 : (pre.length : Int) < 1000000000000 := by have := unhide HNL; omega
    have hwn : IntKind.i64.wrap ((scanP x pre).2 + 1) = (scanP x pre).2 + 1 := by rw [IntKind.wrap_i64]; omega
    have HS := hide (scanP_snoc x pre y)
    unfold ptrV
    clear he hex hsl hn2 hpl hll
    cases ha : alikeM x y.x with
    | true =>
      rw [ha] at HA HS
      rw [if_pos rfl] at HS
      clear ha
      gi_wp2_with fail
      refine ⟨trivial, (callsIn_wide.2 (unhide HA)).mono ?_⟩
      rintro e w1 ⟨rfl, q, rfl⟩
      gi_wp2
      have bX : (W.drewN q).heap[w.heap.size]? = some (.cells #[.pointer (some ⟨bx, 0, none⟩)] 132 (0, 0)) := unhide BX
      have bE : (W.drewN q).heap[w.heap.size + 1]? = some (.cells #[.int .i64 (scanP x pre).1] 3 (0, 0)) := unhide BE
      have bN : (W.drewN q).heap[w.heap.size + 1 + 1]? = some (.cells #[.int .i64 (scanP x pre).2] 3 (0, 0)) := unhide BN
      have oth : ∀ k, k ≠ w.heap.size + 1 → k ≠ w.heap.size + 1 + 1 → (((W.drewN q).setCell ⟨w.heap.size + 1, 0, none⟩ (.int .i64 (y.i : Int))).setCell ⟨w.heap.size + 1 + 1, 0, none⟩ (.int .i64 ((scanP x pre).2 + 1))).heap[k]? = W.heap[k]? := fun k h1 h2 => (Below.heap_setCell _ _ _ _ h2).trans (Below.heap_setCell _ _ _ _ h1)
      refine ⟨((show KeepsOthers W (W.drewN q) from ⟨Nat.le_refl _, fun _ _ h _ => h⟩).trans (KeepsOthers.setCell (W.drewN q) ⟨w.heap.size + 1, 0, none⟩ _)).trans (KeepsOthers.setCell _ _ _), fun k hk => oth k (by omega) (by omega), ⟨⟨(oth _ (by omega) (by omega)).trans (unhide BX), ?_⟩, ?_⟩, ((below_dn hB q).setCell (p := ⟨w.heap.size + 1, 0, none⟩) (by simp) _).setCell (p := ⟨w.heap.size + 1 + 1, 0, none⟩) (by simp; omega) _⟩
      · show _ = _
        rw [unhide HS]
        exact (Below.heap_setCell _ _ _ _ (by simp)).trans (heap_setCell_same _ _ _ _ _ _ bE)
      · show _ = _
        rw [unhide HS]
        exact heap_setCell_same _ _ _ _ _ _ ((Below.heap_setCell _ _ _ _ (by simp)).trans bN)
    | false =>
      rw [ha] at HA HS
      rw [if_neg (by decide)] at HS
      clear ha
      gi_wp2_with fail
      refine ⟨trivial, (callsIn_wide.2 (unhide HA)).mono ?_⟩
      rintro e w1 ⟨rfl, q, rfl⟩
      gi_wp2
      refine ⟨⟨Nat.le_refl _, fun _ _ h _ => h⟩, fun _ _ => rfl, ?_, below_dn hB q⟩
      rw [unhide HS]
      exact ⟨⟨unhide BX, unhide BE⟩, unhide BN⟩
  case done =>
    rintro D ys W hD rfl ⟨⟨⟨_, bE⟩, bN⟩, hB⟩ hK
    have hce := cell_of_one bE
    have hcn := cell_of_one bN
    clear bE bN
    clear c0 c1 c2 hBa hB0 hPf har hll
    generalize hT : scanP x (behN es ps es.length) = T at *
    have hsur : surP x (behN es ps es.length) = if T.2 < 3 then -1 else T.1 := by unfold surP; rw [hT]
    have HSU := hide hsur
    clear hsur hT
    by_cases h3 : T.2 < 3
    · rw [if_pos h3] at HSU
      gi_wp2
      refine ⟨by simp, .inl ⟨_, _, rfl, run_takeDeferred hK, ?_⟩⟩
      refine ⟨.int .i64 (-1), results_tmp Try.results100 _ _ _, by rw [unhide HSU], hB.trans (belowK_b (w := w) (Nat.le_refl _) W D _ _ (by simp at hD; omega) hK rfl rfl)⟩
    · rw [if_neg h3] at HSU
      gi_wp2
      refine ⟨by simp, .inl ⟨_, _, rfl, run_takeDeferred hK, ?_⟩⟩
      refine ⟨.int .i64 T.1, results_tmp Try.results100 _ _ _, by rw [unhide HSU], hB.trans (belowK_b (w := w) (Nat.le_refl _) W D _ _ (by simp at hD; omega) hK rfl rfl)⟩
  case stop =>
    rintro D c pre W hD hpre h9 hK
    exact h9.elim

theorem surplus_any {w : World} {base bW bx : Nat} {F FX : Nat → Prop} {v : Value} {ps : List Nat} {es : List EntM} {x : EntM} (h : RowM w base bW F v ps es) (hx : EntIn w FX bx x) (hfx : ∀ k, FX k → k < w.heap.size) (hl : es.length < 1000000000000) :
    Calls Try.prog 100 #[.pointer (some ⟨bW, 0, none⟩), ptrV bx] w fun e w' => e = .returned (.int .i64 (surP x (behN es ps es.length))) ∧ Below w.heap.size w w' := callsIn_wide.1 (surplus_in h hx hfx hl)
end Go.Proofs.Ytdabgeippkmgaaa
