/-
  Above: is other id, or above it.
-/
import Derived.Test.YtlbkoafeedlfaaaCAbove
namespace Go.Proofs.Ytlbkoafeedlfaaa
open Go.RowKit Go.Shelf
attribute [local go_sem] Oper.semAt_some

theorem upward_in (n : Nat) (p : Value) (hp : p.oneCell' = true) (k : Int) (w : World) (q : Option Addr) (hq : p = .pointer q) :
    CallsIn Fence.wide n Try.prog 57 #[p, .int .i64 k] w fun e w' => e = .returned (.func (.func 103) #[] #[.pointer (some ⟨w.heap.size + 1, 0, none⟩), .pointer (some ⟨w.heap.size, 0, none⟩)]) ∧
      w' = (w.alloc (.cells #[p] 23)).alloc (.cells #[.int .i64 k] 3) := by
  subst hq
  refine callsIn_of_wp Try.func57 rfl trivial ?_ rfl
  simp only [Try.ntmps57, List.size_toArray, List.length_cons, List.length_nil, Nat.reduceAdd, Nat.reduceSub, Array.replicate_succ, Array.replicate_zero, List.push_toArray, List.append_toArray, List.nil_append, List.cons_append]
  gi_wp2
  go_ret
  exact ⟨rfl, rfl⟩

theorem up_stops {base bA bS g cap : Nat} {ns : List NodeM} (n : Nat) (hn : 1 ≤ n) (Bi Ba : Nat) (P : Nat → Prop) (hPf : ∀ k, foot bA bS g ns k → P k) (hPa : P Ba) (path : List Nat) (k0 : Int)
    (w : World) (hBi : w.cell? ⟨Bi, 0, none⟩ = some (.int .i64 k0)) (hBa : w.heap[Ba]? = some (.cells #[.pointer (some ⟨bA, 0, none⟩)] 23 (0, 0))) (har : Ar w base bA bS g cap ns) (hpath : PathOf (upF ns) k0 path) :
    SeqStopsK Fence.wide n Try.prog 103 #[.pointer (some ⟨Bi, 0, none⟩), .pointer (some ⟨Ba, 0, none⟩)] (fun x : Nat => #[Value.int .i64 (x : Int)]) (KeepP P) (fun ys => ys = path) (fun pre => pre <+: path) path.length w := fun l J Jx W hW _ _ hY h0 =>
  up1_in n hn l Bi Ba P hPf hPa path k0 J Jx hY W ((hW.cell (p := ⟨Bi, 0, none⟩) (World.block_lt_of_cell? w _ hBi)).trans hBi) ((hW.block Ba (lt_of_block hBa)).trans hBa) (har.below hW) hpath h0

theorem cell_of_box_l {W : World} {B : Nat} {v : Value} {t : TypeId} (h : W.heap[B]? = some (.cells #[v] t (0, 0))) : W.cell? ⟨B, 0, none⟩ = some v ∧ W.frozen? ⟨B, 0, none⟩ = false := by
  constructor <;> simp [World.cell?, World.frozen?, h]
theorem cell_new_l (W : World) (v : Value) (t : TypeId) : (W.alloc (.cells #[v] t)).cell? ⟨W.heap.size, 0, none⟩ = some v ∧ (W.alloc (.cells #[v] t)).frozen? ⟨W.heap.size, 0, none⟩ = false :=
  cell_of_box_l (World.alloc_heap_new W _)
theorem cell_alloc_l {W : World} {a : Addr} {v : Value} (o : Obj) (h : W.cell? a = some v) : (W.alloc o).cell? a = some v := cell_kept h (World.grownBy_alloc W o none) (fun r e => by cases e)
theorem frozen_alloc_l {W : World} {a : Addr} {v : Value} (o : Obj) (h : W.cell? a = some v) (hf : W.frozen? a = false) : (W.alloc o).frozen? a = false := (frozen_kept h (World.grownBy_alloc W o none) (fun r e => by cases e)).trans hf

theorem path_lt {ns : List NodeM} : ∀ {path : List Nat} {k : Int}, PathOf (upF ns) k path → ∀ x ∈ path, x < ns.length
  | [], _, _, x, hx => by simp at hx
  | i :: r, k, h, x, hx => by
    obtain ⟨rfl, m, hm, hr⟩ := h
    rcases List.mem_cons.1 hx with rfl | hx
    · obtain ⟨nd, hnd, _⟩ : ∃ nd, ns[x]? = some nd ∧ overM ns x nd = m := by simpa [upF] using hm
      exact (List.getElem?_eq_some_iff.1 hnd).1
    · exact path_lt hr x hx

def inPath (path : List Nat) (other : Int) : Bool := path.any fun x => (x : Int) == other

theorem keepP_t {P : Nat → Prop} {A B C : World} (h : KeepP P A B) (k : KeepP P B C) : KeepP P A C := fun i hi => (k i hi).trans (h i hi)
theorem keepP_b {P : Nat → Prop} {w : World} (hP : ∀ k, P k → k < w.heap.size) (W : World) (l : Nat) (o o' : Obj) (hl : w.heap.size ≤ l) (_ : W.heap[l]? = some o) (_ : o.isCells = false) (_ : o.isWalk = false) : KeepP P W (W.putObj l o') := by
  intro k hk
  have := hP k hk
  have hne : l ≠ k := by omega
  simp [World.putObj, hne]

set_option maxRecDepth 100000 in
set_option maxHeartbeats 2000000 in
theorem above_in {w : World} {base bA bS g cap : Nat} {ns : List NodeM} (h : Ar w base bA bS g cap ns) (i : Nat) (hi : i < ns.length) (other : Int) (ho : 0 ≤ other ∧ other < ns.length) (path : List Nat) (hpath : PathOf (upF ns) i path) :
    CallsIn Fence.wide 4 Try.prog 20 #[.pointer (some ⟨bA, 0, none⟩), .int .i64 i, .int .i64 other] w fun e w' => e = .returned (.bool (inPath path other)) ∧ Below w.heap.size w w' := by
  have h2 := (h.alloc (.cells #[.int .i64 other] 3)).alloc (.cells #[.bool false] 4)
  have HH1 := hide (has_any h2 i)
  have HH2 := hide (has_any h2 other)
  have e1 : hasM ns i = true := by simp [hasM, hi]
  have e2 : hasM ns other = true := by simp [hasM, ho]
  rw [e1] at HH1
  rw [e2] at HH2
  have HA := hide h
  have HP := hide hpath
  clear e1 e2 h2 h hpath
  refine callsIn_of_wp_marks Try.func20 rfl trivial ?_ rfl
  simp only [Try.ntmps20, List.size_toArray, List.length_cons, List.length_nil, Nat.reduceAdd, Nat.reduceSub, Array.replicate_succ, Array.replicate_zero, List.push_toArray, List.append_toArray, List.nil_append, List.cons_append]
  gi_wp2_with fail
  refine ⟨trivial, (callsIn_wide.2 (unhide HH1)).mono ?_⟩
  rintro e w' ⟨rfl, rfl⟩
  gi_wp2_with fail
  refine ⟨trivial, (callsIn_wide.2 (unhide HH2)).mono ?_⟩
  rintro e w' ⟨rfl, rfl⟩
  gi_wp2_with fail
  refine ⟨trivial, (upward_in _ _ rfl _ _ _ rfl).mono ?_⟩
  rintro e w' ⟨rfl, rfl⟩
  gi_wp2_with fail
  have c0 := cell_new_l w (.int .i64 other) 3
  have c1 := cell_new_l (w.alloc (.cells #[.int .i64 other] 3)) (.bool false) 4
  have c3 := cell_new_l (((w.alloc (.cells #[.int .i64 other] 3)).alloc (.cells #[.bool false] 4)).alloc (.cells #[.pointer (some ⟨bA, 0, none⟩)] 23)) (.int .i64 i) 3
  simp only [World.size_alloc] at c1 c3
  have hBa : ((((w.alloc (.cells #[.int .i64 other] 3)).alloc (.cells #[.bool false] 4)).alloc (.cells #[.pointer (some ⟨bA, 0, none⟩)] 23)).alloc (.cells #[.int .i64 i] 3)).heap[w.heap.size + 1 + 1]? = some (.cells #[.pointer (some ⟨bA, 0, none⟩)] 23 (0, 0)) := by
    rw [Below.heap_alloc _ _ _ (by simp)]
    exact last_block _ _ _ (by simp)
  have har4 := (((unhide HA).alloc (.cells #[.int .i64 other] 3)).alloc (.cells #[.bool false] 4)).alloc (.cells #[.pointer (some ⟨bA, 0, none⟩)] 23) |>.alloc (.cells #[.int .i64 i] 3)
  have hB0 : Below w.heap.size w ((((w.alloc (.cells #[.int .i64 other] 3)).alloc (.cells #[.bool false] 4)).alloc (.cells #[.pointer (some ⟨bA, 0, none⟩)] 23)).alloc (.cells #[.int .i64 i] 3)) :=
    ((((Below.refl _ w).alloc (Nat.le_refl _) _).alloc (by simp) _).alloc (by simp; omega) _).alloc (by simp; omega) _
  have hPf : ∀ k, foot bA bS g ns k → (k < w.heap.size ∨ k = w.heap.size + 1 + 1) := fun k hk => .inl ((unhide HA).foot_lt hk).2
  have path0 := unhide HP
  refine wpIn_rangeFunc_ownF (w0 := ((((w.alloc (.cells #[.int .i64 other] 3)).alloc (.cells #[.bool false] 4)).alloc (.cells #[.pointer (some ⟨bA, 0, none⟩)] 23)).alloc (.cells #[.int .i64 i] 3))) rfl (by omega) (gf := 103) (lb := #[.pointer (some ⟨w.heap.size + 1 + 1 + 1, 0, none⟩), .pointer (some ⟨w.heap.size + 1 + 1, 0, none⟩)]) rfl trivial (enters_of Try.func103 (by kernel_rfl) rfl)
    (up_stops 3 (by omega) (w.heap.size + 1 + 1 + 1) (w.heap.size + 1 + 1) (fun k => k < w.heap.size ∨ k = w.heap.size + 1 + 1) hPf (.inr rfl) path i _ c3.1 hBa har4 path0) keepP_t (keepP_b (by intro k hk; simp; omega)) (Below.refl _ _) (fun _ => rfl)
    (fun pre W => ((∀ y ∈ pre, ((y : Nat) : Int) ≠ other) ∧ W.cell? ⟨w.heap.size, 0, none⟩ = some (.int .i64 other) ∧ W.cell? ⟨w.heap.size + 1, 0, none⟩ = some (.bool false) ∧ W.frozen? ⟨w.heap.size + 1, 0, none⟩ = false) ∧ Below w.heap.size w W)
    (fun c pre W => (c = .ret ∧ (∃ y ∈ pre, ((y : Nat) : Int) = other) ∧ W.cell? ⟨w.heap.size + 1, 0, none⟩ = some (.bool true)) ∧ Below w.heap.size w W)
    (OwnFrom.and (Own.from (fun s A B row hs hg hr => ⟨hs.1, cell_kept hs.2.1 hg hr, cell_kept hs.2.2.1 hg hr, (frozen_kept hs.2.2.1 hg hr).trans hs.2.2.2⟩) _) (ownFrom_below (Nat.le_refl _) (by simp; omega)))
    (fun c => OwnFrom.and (Own.from (fun s A B row hs hg hr => ⟨hs.1, hs.2.1, cell_kept hs.2.2 hg hr⟩) _) (ownFrom_below (Nat.le_refl _) (by simp; omega)))
    ⟨⟨by simp, cell_alloc_l _ (cell_alloc_l _ (cell_alloc_l _ c0.1)), cell_alloc_l _ (cell_alloc_l _ c1.1), frozen_alloc_l _ (cell_alloc_l _ c1.1) (frozen_alloc_l _ c1.1 c1.2)⟩, hB0⟩
    (fun x => { tmps := #[.pointer (some ⟨bA, 0, none⟩), .int .i64 i, .int .i64 other, undef, undef, .pointer (some ⟨w.heap.size, 0, none⟩), .pointer (some ⟨w.heap.size + 1, 0, none⟩), .int .i64 x, .pointer (some ⟨bA, 0, none⟩), .int .i64 i, .bool true, .bool false, .bool false, .pointer (some ⟨bA, 0, none⟩), .int .i64 other, .bool true, .bool false, .bool false, .pointer (some ⟨bA, 0, none⟩), .int .i64 i, .func (.func 103) #[] #[.pointer (some ⟨w.heap.size + 1 + 1 + 1, 0, none⟩), .pointer (some ⟨w.heap.size + 1 + 1, 0, none⟩)], .int .i64 x, undef, undef, undef], defers := [] }) ?assign ?body ?done ?stop
  case assign =>
    intro l x W K hK
    gi_wp2
    exact hK
  case body =>
    rintro l pre x W ⟨⟨hp, hcw, hcr, hfr⟩, hB⟩ _
    clear c0 c1 c3 hBa har4 hB0 hPf path0
    gi_wp2
    · rename_i hx
      have hx' : (x : Int) = other := eq_of_beq hx
      exact ⟨KeepsOthers.setCell _ _ _, ⟨rfl, ⟨x, List.mem_append.2 (.inr (by simp)), hx'⟩, World.cell?_setCell_same' _ _ _ (by rw [hcr]; rfl)⟩, hB.setCell (p := ⟨w.heap.size + 1, 0, none⟩) (by simp) _⟩
    · rename_i hx
      exact ⟨KeepsOthers.refl _, fun _ _ => rfl, ⟨fun y hy => (List.mem_append.1 hy).elim (hp y) (fun e e' => by simp at e; subst e; simp [e'] at hx), hcw, hcr, hfr⟩, hB⟩
  case done =>
    rintro D ys W hD rfl ⟨⟨hne, _, hcr, hfr⟩, hB⟩ hK
    clear c0 c1 c3 hBa har4 hB0 hPf path0
    gi_wp2
    have hK' := (KeepsOthers.setCell W ⟨w.heap.size + 1, 0, none⟩ (.bool false)).same D _ hK rfl
    refine ⟨by simp, .inl ⟨_, _, rfl, run_takeDeferred hK', ?_⟩⟩
    have hc5 := cell_kept (World.cell?_setCell_same' W ⟨w.heap.size + 1, 0, none⟩ (.bool false) (by rw [hcr]; rfl)) (grownBy_putObj' _ D (.deferred none)) (fun r e => by cases e; exact ⟨_, hK', rfl⟩)
    have hno : inPath ys other = false := by simp [inPath]; exact fun y hy => hne y hy
    refine ⟨.bool false, ?_, by rw [hno], (hB.setCell (p := ⟨w.heap.size + 1, 0, none⟩) (by simp) _).trans (belowK_b (w := w) (Nat.le_refl _) _ D _ _ (by simp at hD; omega) hK' rfl rfl)⟩
    simp [results, Try.results20, go_sem, hc5]
  case stop =>
    rintro D c pre W hD hpre ⟨⟨rfl, ⟨y, hy, hyo⟩, hcr⟩, hB⟩ hK
    clear c0 c1 c3 hBa har4 hB0 hPf path0
    gi_wp2
    refine ⟨by simp, .inl ⟨_, _, rfl, run_takeDeferred hK, ?_⟩⟩
    have hc5 := cell_kept hcr (grownBy_putObj' _ D (.deferred none)) (fun r e => by cases e; exact ⟨_, hK, rfl⟩)
    have hyes : inPath path other = true := List.any_eq_true.2 ⟨y, hpre.subset hy, by simpa using hyo⟩
    refine ⟨.bool true, ?_, by rw [hyes], hB.trans (belowK_b (w := w) (Nat.le_refl _) W D _ _ (by simp at hD; omega) hK rfl rfl)⟩
    simp [results, Try.results20, go_sem, hc5]
end Go.Proofs.Ytlbkoafeedlfaaa
