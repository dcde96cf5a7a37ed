/-
  Above: is other id, or above it. join: two neighbours. Above at all numbers; covers; whether a link may be made.
-/
import Derived.Test.YtlbkoafeedlfaaaSBad
import Derived.Test.YtlbkoafeedlfaaaSBac
namespace Go.Proofs.Ytlbkoafeedlfaaa
open Go.RowKit Go.Shelf
attribute [local go_sem] Oper.semAt_some

theorem upward_in (n : Nat) (p : Value) (hp : p.oneCell' = true) (k : Int) (w : World) (q : Option Addr) (hq : p = .pointer q) :
    CallsIn Fence.wide n Try.prog 57 #[p, .int .i64 k] w fun e w' => e = .returned (.func (.func 103) #[] #[.pointer (some ⟨w.heap.size + 1, 0, none⟩), .pointer (some ⟨w.heap.size, 0, none⟩)]) ∧
      w' = (w.alloc (.cells #[p] 23)).alloc (.cells #[.int .i64 k] 3) := by
  subst hq
  refine callsIn_of_wp Try.func57 rfl trivial ?_ rfl
  simp only [Try.ntmps57, List.size_toArray, List.length_cons, List.length_nil, Nat.reduceAdd, Nat.reduceSub, Array.replicate_succ, Array.replicate_zero, List.push_toArray, List.append_toArray, List.nil_append, List.cons_append]
  gi_wp2
  go_ret
  exact ⟨rfl, rfl⟩

theorem up_stops {base bA bS g cap : Nat} {ns : List NodeM} (n : Nat) (hn : 1 ≤ n) (Bi Ba : Nat) (P : Nat → Prop) (hPf : ∀ k, foot bA bS g ns k → P k) (hPa : P Ba) (path : List Nat) (k0 : Int)
    (w : World) (hBi : w.cell? ⟨Bi, 0, none⟩ = some (.int .i64 k0)) (hBa : w.heap[Ba]? = some (.cells #[.pointer (some ⟨bA, 0, none⟩)] 23 (0, 0))) (har : Ar w base bA bS g cap ns) (hpath : PathOf (upF ns) k0 path) :
    SeqStopsK Fence.wide n Try.prog 103 #[.pointer (some ⟨Bi, 0, none⟩), .pointer (some ⟨Ba, 0, none⟩)] (fun x : Nat => #[Value.int .i64 (x : Int)]) (KeepP P) (fun ys => ys = path) (fun pre => pre <+: path) path.length w := fun l J Jx W hW _ _ hY h0 =>
  up1_in n hn l Bi Ba P hPf hPa path k0 J Jx hY W ((hW.cell (p := ⟨Bi, 0, none⟩) (World.block_lt_of_cell? w _ hBi)).trans hBi) ((hW.block Ba (lt_of_block hBa)).trans hBa) (har.below hW) hpath h0

theorem cell_of_box_l {W : World} {B : Nat} {v : Value} {t : TypeId} (h : W.heap[B]? = some (.cells #[v] t (0, 0))) : W.cell? ⟨B, 0, none⟩ = some v ∧ W.frozen? ⟨B, 0, none⟩ = false := by
  constructor <;> simp [World.cell?, World.frozen?, h]
theorem cell_new_l (W : World) (v : Value) (t : TypeId) : (W.alloc (.cells #[v] t)).cell? ⟨W.heap.size, 0, none⟩ = some v ∧ (W.alloc (.cells #[v] t)).frozen? ⟨W.heap.size, 0, none⟩ = false :=
  cell_of_box_l (World.alloc_heap_new W _)
theorem cell_alloc_l {W : World} {a : Addr} {v : Value} (o : Obj) (h : W.cell? a = some v) : (W.alloc o).cell? a = some v := cell_kept h (World.grownBy_alloc W o none) (fun r e => by cases e)
theorem frozen_alloc_l {W : World} {a : Addr} {v : Value} (o : Obj) (h : W.cell? a = some v) (hf : W.frozen? a = false) : (W.alloc o).frozen? a = false := (frozen_kept h (World.grownBy_alloc W o none) (fun r e => by cases e)).trans hf

theorem path_lt {ns : List NodeM} : ∀ {path : List Nat} {k : Int}, PathOf (upF ns) k path → ∀ x ∈ path, x < ns.length
  | [], _, _, x, hx => by simp at hx
  | i :: r, k, h, x, hx => by
    obtain ⟨rfl, m, hm, hr⟩ := h
    rcases List.mem_cons.1 hx with rfl | hx
    · obtain ⟨nd, hnd, _⟩ : ∃ nd, ns[x]? = some nd ∧ overM ns x nd = m := by simpa [upF] using hm
      exact (List.getElem?_eq_some_iff.1 hnd).1
    · exact path_lt hr x hx

def inPath (path : List Nat) (other : Int) : Bool := path.any fun x => (x : Int) == other

theorem keepP_t {P : Nat → Prop} {A B C : World} (h : KeepP P A B) (k : KeepP P B C) : KeepP P A C := fun i hi => (k i hi).trans (h i hi)
theorem keepP_b {P : Nat → Prop} {w : World} (hP : ∀ k, P k → k < w.heap.size) (W : World) (l : Nat) (o o' : Obj) (hl : w.heap.size ≤ l) (_ : W.heap[l]? = some o) (_ : o.isCells = false) (_ : o.isWalk = false) : KeepP P W (W.putObj l o') := by
  intro k hk
  have := hP k hk
  have hne : l ≠ k := by omega
  simp [World.putObj, hne]

set_option maxRecDepth 100000 in
set_option maxHeartbeats 2000000 in
theorem above_in {w : World} {base bA bS g cap : Nat} {ns : List NodeM} (h : Ar w base bA bS g cap ns) (i : Nat) (hi : i < ns.length) (other : Int) (ho : 0 ≤ other ∧ other < ns.length) (path : List Nat) (hpath : PathOf (upF ns) i path) :
    CallsIn Fence.wide 4 Try.prog 20 #[.pointer (some ⟨bA, 0, none⟩), .int .i64 i, .int .i64 other] w fun e w' => e = .returned (.bool (inPath path other)) ∧ Below w.heap.size w w' := by
  have h2 := (h.alloc (.cells #[.int .i64 other] 3)).alloc (.cells #[.bool false] 4)
  have HH1 := hide (has_any h2 i)
  have HH2 := hide (has_any h2 other)
  have e1 : hasM ns i = true := by simp [hasM, hi]
  have e2 : hasM ns other = true := by simp [hasM, ho]
  rw [e1] at HH1
  rw [e2] at HH2
  have HA := hide h
  have HP := hide hpath
  clear e1 e2 h2 h hpath
  refine callsIn_of_wp_marks Try.func20 rfl trivial ?_ rfl
  simp only [Try.ntmps20, List.size_toArray, List.length_cons, List.length_nil, Nat.reduceAdd, Nat.reduceSub, Array.replicate_succ, Array.replicate_zero, List.push_toArray, List.append_toArray, List.nil_append, List.cons_append]
  gi_wp2_with fail
  refine ⟨trivial, (callsIn_wide.2 (unhide HH1)).mono ?_⟩
  rintro e w' ⟨rfl, rfl⟩
  gi_wp2_with fail
  refine ⟨trivial, (callsIn_wide.2 (unhide HH2)).mono ?_⟩
  rintro e w' ⟨rfl, rfl⟩
  gi_wp2_with fail
  refine ⟨trivial, (upward_in _ _ rfl _ _ _ rfl).mono ?_⟩
  rintro e w' ⟨rfl, rfl⟩
  gi_wp2_with fail
  have c0 := cell_new_l w (.int .i64 other) 3
  have c1 := cell_new_l (w.alloc (.cells #[.int .i64 other] 3)) (.bool false) 4
  have c3 := cell_new_l (((w.alloc (.cells #[.int .i64 other] 3)).alloc (.cells #[.bool false] 4)).alloc (.cells #[.pointer (some ⟨bA, 0, none⟩)] 23)) (.int .i64 i) 3
  simp only [World.size_alloc] at c1 c3
  have hBa : ((((w.alloc (.cells #[.int .i64 other] 3)).alloc (.cells #[.bool false] 4)).alloc (.cells #[.pointer (some ⟨bA, 0, none⟩)] 23)).alloc (.cells #[.int .i64 i] 3)).heap[w.heap.size + 1 + 1]? = some (.cells #[.pointer (some ⟨bA, 0, none⟩)] 23 (0, 0)) := by
    rw [Below.heap_alloc _ _ _ (by simp)]
    exact last_block _ _ _ (by simp)
  have har4 := (((unhide HA).alloc (.cells #[.int .i64 other] 3)).alloc (.cells #[.bool false] 4)).alloc (.cells #[.pointer (some ⟨bA, 0, none⟩)] 23) |>.alloc (.cells #[.int .i64 i] 3)
  have hB0 : Below w.heap.size w ((((w.alloc (.cells #[.int .i64 other] 3)).alloc (.cells #[.bool false] 4)).alloc (.cells #[.pointer (some ⟨bA, 0, none⟩)] 23)).alloc (.cells #[.int .i64 i] 3)) :=
    ((((Below.refl _ w).alloc (Nat.le_refl _) _).alloc (by simp) _).alloc (by simp; omega) _).alloc (by simp; omega) _
  have hPf : ∀ k, foot bA bS g ns k → (k < w.heap.size ∨ k = w.heap.size + 1 + 1) := fun k hk => .inl ((unhide HA).foot_lt hk).2
  have path0 := unhide HP
  refine wpIn_rangeFunc_ownF (w0 := ((((w.alloc (.cells #[.int .i64 other] 3)).alloc (.cells #[.bool false] 4)).alloc (.cells #[.pointer (some ⟨bA, 0, none⟩)] 23)).alloc (.cells #[.int .i64 i] 3))) rfl (by omega) (gf := 103) (lb := #[.pointer (some ⟨w.heap.size + 1 + 1 + 1, 0, none⟩), .pointer (some ⟨w.heap.size + 1 + 1, 0, none⟩)]) rfl trivial (enters_of Try.func103 (by kernel_rfl) rfl)
    (up_stops 3 (by omega) (w.heap.size + 1 + 1 + 1) (w.heap.size + 1 + 1) (fun k => k < w.heap.size ∨ k = w.heap.size + 1 + 1) hPf (.inr rfl) path i _ c3.1 hBa har4 path0) keepP_t (keepP_b (by intro k hk; simp; omega)) (Below.refl _ _) (fun _ => rfl)
    (fun pre W => ((∀ y ∈ pre, ((y : Nat) : Int) ≠ other) ∧ W.cell? ⟨w.heap.size, 0, none⟩ = some (.int .i64 other) ∧ W.cell? ⟨w.heap.size + 1, 0, none⟩ = some (.bool false) ∧ W.frozen? ⟨w.heap.size + 1, 0, none⟩ = false) ∧ Below w.heap.size w W)
    (fun c pre W => (c = .ret ∧ (∃ y ∈ pre, ((y : Nat) : Int) = other) ∧ W.cell? ⟨w.heap.size + 1, 0, none⟩ = some (.bool true)) ∧ Below w.heap.size w W)
    (OwnFrom.and (Own.from (fun s A B row hs hg hr => ⟨hs.1, cell_kept hs.2.1 hg hr, cell_kept hs.2.2.1 hg hr, (frozen_kept hs.2.2.1 hg hr).trans hs.2.2.2⟩) _) (ownFrom_below (Nat.le_refl _) (by simp; omega)))
    (fun c => OwnFrom.and (Own.from (fun s A B row hs hg hr => ⟨hs.1, hs.2.1, cell_kept hs.2.2 hg hr⟩) _) (ownFrom_below (Nat.le_refl _) (by simp; omega)))
    ⟨⟨by simp, cell_alloc_l _ (cell_alloc_l _ (cell_alloc_l _ c0.1)), cell_alloc_l _ (cell_alloc_l _ c1.1), frozen_alloc_l _ (cell_alloc_l _ c1.1) (frozen_alloc_l _ c1.1 c1.2)⟩, hB0⟩
    (fun x => { tmps := #[.pointer (some ⟨bA, 0, none⟩), .int .i64 i, .int .i64 other, undef, undef, .pointer (some ⟨w.heap.size, 0, none⟩), .pointer (some ⟨w.heap.size + 1, 0, none⟩), .int .i64 x, .pointer (some ⟨bA, 0, none⟩), .int .i64 i, .bool true, .bool false, .bool false, .pointer (some ⟨bA, 0, none⟩), .int .i64 other, .bool true, .bool false, .bool false, .pointer (some ⟨bA, 0, none⟩), .int .i64 i, .func (.func 103) #[] #[.pointer (some ⟨w.heap.size + 1 + 1 + 1, 0, none⟩), .pointer (some ⟨w.heap.size + 1 + 1, 0, none⟩)], .int .i64 x, undef, undef, undef], defers := [] }) ?assign ?body ?done ?stop
  case assign =>
    intro l x W K hK
    gi_wp2
    exact hK
  case body =>
    rintro l pre x W ⟨⟨hp, hcw, hcr, hfr⟩, hB⟩ _
    clear c0 c1 c3 hBa har4 hB0 hPf path0
    gi_wp2
    · rename_i hx
      have hx' : (x : Int) = other := eq_of_beq hx
      exact ⟨KeepsOthers.setCell _ _ _, ⟨rfl, ⟨x, List.mem_append.2 (.inr (by simp)), hx'⟩, World.cell?_setCell_same' _ _ _ (by rw [hcr]; rfl)⟩, hB.setCell (p := ⟨w.heap.size + 1, 0, none⟩) (by simp) _⟩
    · rename_i hx
      exact ⟨KeepsOthers.refl _, fun _ _ => rfl, ⟨fun y hy => (List.mem_append.1 hy).elim (hp y) (fun e e' => by simp at e; subst e; simp [e'] at hx), hcw, hcr, hfr⟩, hB⟩
  case done =>
    rintro D ys W hD rfl ⟨⟨hne, _, hcr, hfr⟩, hB⟩ hK
    clear c0 c1 c3 hBa har4 hB0 hPf path0
    gi_wp2
    have hK' := (KeepsOthers.setCell W ⟨w.heap.size + 1, 0, none⟩ (.bool false)).same D _ hK rfl
    refine ⟨by simp, .inl ⟨_, _, rfl, run_takeDeferred hK', ?_⟩⟩
    have hc5 := cell_kept (World.cell?_setCell_same' W ⟨w.heap.size + 1, 0, none⟩ (.bool false) (by rw [hcr]; rfl)) (grownBy_putObj' _ D (.deferred none)) (fun r e => by cases e; exact ⟨_, hK', rfl⟩)
    have hno : inPath ys other = false := by simp [inPath]; exact fun y hy => hne y hy
    refine ⟨.bool false, ?_, by rw [hno], (hB.setCell (p := ⟨w.heap.size + 1, 0, none⟩) (by simp) _).trans (belowK_b (w := w) (Nat.le_refl _) _ D _ _ (by simp at hD; omega) hK' rfl rfl)⟩
    simp [results, Try.results20, go_sem, hc5]
  case stop =>
    rintro D c pre W hD hpre ⟨⟨rfl, ⟨y, hy, hyo⟩, hcr⟩, hB⟩ hK
    clear c0 c1 c3 hBa har4 hB0 hPf path0
    gi_wp2
    refine ⟨by simp, .inl ⟨_, _, rfl, run_takeDeferred hK, ?_⟩⟩
    have hc5 := cell_kept hcr (grownBy_putObj' _ D (.deferred none)) (fun r e => by cases e; exact ⟨_, hK, rfl⟩)
    have hyes : inPath path other = true := List.any_eq_true.2 ⟨y, hpre.subset hy, by simpa using hyo⟩
    refine ⟨.bool true, ?_, by rw [hyes], hB.trans (belowK_b (w := w) (Nat.le_refl _) W D _ _ (by simp at hD; omega) hK rfl rfl)⟩
    simp [results, Try.results20, go_sem, hc5]
end Go.Proofs.Ytlbkoafeedlfaaa

namespace Go.Proofs.Ytlbkoafeedlfaaa
open Go.RowKit

def upd (ns : List NodeM) (i : Nat) (f : NodeM → NodeM) : List NodeM := match ns[i]? with | some n => ns.set i (f n) | none => ns

theorem upd_of {ns : List NodeM} {i : Nat} {n : NodeM} (h : ns[i]? = some n) (f : NodeM → NodeM) : upd ns i f = ns.set i (f n) := by simp [upd, h]
theorem upd_len (ns : List NodeM) (i : Nat) (f : NodeM → NodeM) : (upd ns i f).length = ns.length := by unfold upd; split <;> simp
theorem upd_get_same {ns : List NodeM} {i : Nat} {n : NodeM} (h : ns[i]? = some n) (f : NodeM → NodeM) : (upd ns i f)[i]? = some (f n) := by
  rw [upd_of h, List.getElem?_set_self (List.getElem?_eq_some_iff.1 h).1]
theorem upd_get_other (ns : List NodeM) {i j : Nat} (h : i ≠ j) (f : NodeM → NodeM) : (upd ns i f)[j]? = ns[j]? := by
  unfold upd; split
  · rw [List.getElem?_set_ne h]
  · rfl

section
variable {w : World} {base bA bS g cap : Nat} {ns : List NodeM}

theorem Ar.upd (h : Ar w base bA bS g cap ns) {i : Nat} (hi : i < ns.length) (j : Nat) (hj : j < 12) (v : Value) (f : NodeM → NodeM) (hf : ∀ n, (f n).cells = n.cells.set j v ∧ (f n).av = n.av ∧ (f n).attrs = n.attrs) :
    Ar (w.setCell ⟨g, i * 12 + j, none⟩ v) base bA bS g cap (upd ns i f) := by
  have hn : ns[i]? = some ns[i] := List.getElem?_eq_getElem hi
  rw [upd_of hn]
  exact h.set hn j hj v (hf _).1 (hf _).2.1 (hf _).2.2

theorem Ar.there (h : Ar w base bA bS g cap ns) {i : Nat} (hi : i < ns.length) (j : Nat) (hj : j < 12) : ∃ v, w.cell? ⟨g, i * 12 + j, none⟩ = some v := by
  have hn : ns[i]? = some ns[i] := List.getElem?_eq_getElem hi
  rw [h.cell hn j hj]
  exact ⟨_, List.getElem?_eq_getElem (by rw [node_len]; exact hj)⟩
end

def setFirst (b : Int) (n : NodeM) : NodeM := { n with first := b }
def setLast (b : Int) (n : NodeM) : NodeM := { n with last := b }
def setPrev (b : Int) (n : NodeM) : NodeM := { n with prev := b }
def setNext (b : Int) (n : NodeM) : NodeM := { n with next := b }
def setParent (b : Int) (n : NodeM) : NodeM := { n with parent := b }

/-- Is it none, or a node's number? -/
def okK (ns : List NodeM) (k : Int) : Prop := k = -1 ∨ ∃ i : Nat, k = i ∧ i < ns.length

def joinA (ns : List NodeM) (p : Nat) (a b : Int) : List NodeM := if a = -1 then upd ns p (setFirst b) else upd ns a.toNat (setNext b)
def joinB (ns : List NodeM) (p : Nat) (a b : Int) : List NodeM := if b = -1 then upd ns p (setLast a) else upd ns b.toNat (setPrev a)
def joinM (ns : List NodeM) (p : Nat) (a b : Int) : List NodeM := joinB (joinA ns p a b) p a b

theorem joinA_len (ns : List NodeM) (p : Nat) (a b : Int) : (joinA ns p a b).length = ns.length := by unfold joinA; split <;> exact upd_len _ _ _
theorem joinB_len (ns : List NodeM) (p : Nat) (a b : Int) : (joinB ns p a b).length = ns.length := by unfold joinB; split <;> exact upd_len _ _ _
theorem joinM_len (ns : List NodeM) (p : Nat) (a b : Int) : (joinM ns p a b).length = ns.length := by rw [joinM, joinB_len, joinA_len]

set_option maxHeartbeats 1000000 in
theorem join_any {w : World} {base bA bS g cap : Nat} {ns : List NodeM} (h : Ar w base bA bS g cap ns) (p : Nat) (hp : p < ns.length) (a b : Int) (ha : okK ns a) (hb : okK ns b) :
    Calls Try.prog 92 #[.pointer (some ⟨bA, 0, none⟩), .int .i64 p, .int .i64 a, .int .i64 b] w fun e w' => e = .returned (.tuple #[]) ∧ Ar w' base bA bS g cap (joinM ns p a b) ∧ Mod (fun k => k = g) w w' := by
  have hA := h.cA
  have hS := h.cS
  have hm := h.most
  have hfg := h.fg
  rcases ha with rfl | ⟨i, rfl, hi⟩
  · rcases hb with rfl | ⟨j, rfl, hj⟩
    · obtain ⟨v1, hc1⟩ := h.there hp 7 (by omega)
      have h1 := h.upd hp 7 (by omega) (.int .i64 (-1)) (setFirst (-1)) (fun n => ⟨rfl, rfl, rfl⟩)
      have e1 : joinA ns p (-1) (-1) = upd ns p (setFirst (-1)) := by simp [joinA]
      obtain ⟨v2, hc2⟩ := h1.there (i := p) (by rw [upd_len]; exact hp) 8 (by omega)
      have h2 := h1.upd (i := p) (by rw [upd_len]; exact hp) 8 (by omega) (.int .i64 (-1)) (setLast (-1)) (fun n => ⟨rfl, rfl, rfl⟩)
      have e2 : joinM ns p (-1) (-1) = upd (upd ns p (setFirst (-1))) p (setLast (-1)) := by rw [joinM, e1]; simp [joinB]
      rw [e2]
      have HR := hide h2
      clear h1 h2 h e1 e2
      go_enter Try.func92, Try.ntmps92
      go_wp2
      go_end0
      exact ⟨rfl, unhide HR, (Mod.setCell (F := fun k => k = g) w ⟨g, p * 12 + 7, none⟩ _ rfl).trans (Mod.setCell (F := fun k => k = g) _ ⟨g, p * 12 + 8, none⟩ _ rfl)⟩
    · obtain ⟨v1, hc1⟩ := h.there hp 7 (by omega)
      have h1 := h.upd hp 7 (by omega) (.int .i64 j) (setFirst j) (fun n => ⟨rfl, rfl, rfl⟩)
      have e1 : joinA ns p (-1) j = upd ns p (setFirst j) := by simp [joinA]
      obtain ⟨v2, hc2⟩ := h1.there (i := j) (by rw [upd_len]; exact hj) 9 (by omega)
      have h2 := h1.upd (i := j) (by rw [upd_len]; exact hj) 9 (by omega) (.int .i64 (-1)) (setPrev (-1)) (fun n => ⟨rfl, rfl, rfl⟩)
      have e2 : joinM ns p (-1) j = upd (upd ns p (setFirst j)) j (setPrev (-1)) := by rw [joinM, e1]; have : ¬ (j : Int) = -1 := (by omega); simp [joinB, this]
      rw [e2]
      have HR := hide h2
      clear h1 h2 h e1 e2
      have hj1 : ((j : Int) == -1) = false := beq_eq_false_iff_ne.2 (by omega)
      go_enter Try.func92, Try.ntmps92
      go_wp2
      go_end0
      exact ⟨rfl, unhide HR, (Mod.setCell (F := fun k => k = g) w ⟨g, p * 12 + 7, none⟩ _ rfl).trans (Mod.setCell (F := fun k => k = g) _ ⟨g, j * 12 + 9, none⟩ _ rfl)⟩
  · rcases hb with rfl | ⟨j, rfl, hj⟩
    · obtain ⟨v1, hc1⟩ := h.there hi 10 (by omega)
      have h1 := h.upd hi 10 (by omega) (.int .i64 (-1)) (setNext (-1)) (fun n => ⟨rfl, rfl, rfl⟩)
      have e1 : joinA ns p i (-1) = upd ns i (setNext (-1)) := by have : ¬ (i : Int) = -1 := (by omega); simp [joinA, this]
      obtain ⟨v2, hc2⟩ := h1.there (i := p) (by rw [upd_len]; exact hp) 8 (by omega)
      have h2 := h1.upd (i := p) (by rw [upd_len]; exact hp) 8 (by omega) (.int .i64 i) (setLast i) (fun n => ⟨rfl, rfl, rfl⟩)
      have e2 : joinM ns p i (-1) = upd (upd ns i (setNext (-1))) p (setLast i) := by rw [joinM, e1]; simp [joinB]
      rw [e2]
      have HR := hide h2
      clear h1 h2 h e1 e2
      have hi1 : ((i : Int) == -1) = false := beq_eq_false_iff_ne.2 (by omega)
      go_enter Try.func92, Try.ntmps92
      go_wp2
      go_end0
      exact ⟨rfl, unhide HR, (Mod.setCell (F := fun k => k = g) w ⟨g, i * 12 + 10, none⟩ _ rfl).trans (Mod.setCell (F := fun k => k = g) _ ⟨g, p * 12 + 8, none⟩ _ rfl)⟩
    · obtain ⟨v1, hc1⟩ := h.there hi 10 (by omega)
      have h1 := h.upd hi 10 (by omega) (.int .i64 j) (setNext j) (fun n => ⟨rfl, rfl, rfl⟩)
      have e1 : joinA ns p i j = upd ns i (setNext j) := by have : ¬ (i : Int) = -1 := (by omega); simp [joinA, this]
      obtain ⟨v2, hc2⟩ := h1.there (i := j) (by rw [upd_len]; exact hj) 9 (by omega)
      have h2 := h1.upd (i := j) (by rw [upd_len]; exact hj) 9 (by omega) (.int .i64 i) (setPrev i) (fun n => ⟨rfl, rfl, rfl⟩)
      have e2 : joinM ns p i j = upd (upd ns i (setNext j)) j (setPrev i) := by rw [joinM, e1]; have : ¬ (j : Int) = -1 := (by omega); simp [joinB, this]
      rw [e2]
      have HR := hide h2
      clear h1 h2 h e1 e2
      have hi1 : ((i : Int) == -1) = false := beq_eq_false_iff_ne.2 (by omega)
      have hj1 : ((j : Int) == -1) = false := beq_eq_false_iff_ne.2 (by omega)
      go_enter Try.func92, Try.ntmps92
      go_wp2
      go_end0
      exact ⟨rfl, unhide HR, (Mod.setCell (F := fun k => k = g) w ⟨g, i * 12 + 10, none⟩ _ rfl).trans (Mod.setCell (F := fun k => k = g) _ ⟨g, j * 12 + 9, none⟩ _ rfl)⟩
end Go.Proofs.Ytlbkoafeedlfaaa

namespace Go.Proofs.Ytlbkoafeedlfaaa
open Go.RowKit

set_option maxHeartbeats 1000000 in
theorem above_no {w : World} {base bA bS g cap : Nat} {ns : List NodeM} (h : Ar w base bA bS g cap ns) (id other : Int) (hno : (hasM ns id && hasM ns other) = false) :
    Calls Try.prog 20 #[.pointer (some ⟨bA, 0, none⟩), .int .i64 id, .int .i64 other] w fun e w' => e = .returned (.bool false) ∧ Below w.heap.size w w' := by
  have h2 := (h.alloc (.cells #[.int .i64 other] 3)).alloc (.cells #[.bool false] 4)
  have HB := hide (((Below.refl _ w).alloc (Nat.le_refl _) (.cells #[.int .i64 other] 3)).alloc (by simp) (.cells #[.bool false] 4))
  have HH1 := hide (has_any h2 id)
  have HH2 := hide (has_any h2 other)
  clear h2 h
  cases hi : hasM ns id with
  | false =>
    rw [hi] at HH1
    clear hno
    go_enter Try.func20, Try.ntmps20
    go_wp2_with (go_at_call 54; refine (unhide HH1).mono ?_; rintro e w' ⟨rfl, rfl⟩)
    exact bodyPost_ret (v := .bool false) (by simp [results, Try.results20, go_sem]) rfl ⟨rfl, unhide HB⟩
  | true =>
    have ho : hasM ns other = false := by simpa [hi] using hno
    rw [hi] at HH1
    rw [ho] at HH2
    clear hno hi ho
    go_enter Try.func20, Try.ntmps20
    go_wp2_with fail
    refine (unhide HH1).mono ?_
    rintro e w' ⟨rfl, rfl⟩
    go_wp2_with fail
    refine (unhide HH2).mono ?_
    rintro e w' ⟨rfl, rfl⟩
    go_wp2
    exact bodyPost_ret (v := .bool false) (by simp [results, Try.results20, go_sem]) rfl ⟨rfl, unhide HB⟩

theorem above_yes {w : World} {base bA bS g cap : Nat} {ns : List NodeM} (h : Ar w base bA bS g cap ns) (i : Nat) (hi : i < ns.length) (other : Int) (path : List Nat) (hpath : PathOf (upF ns) i path) :
    Calls Try.prog 20 #[.pointer (some ⟨bA, 0, none⟩), .int .i64 i, .int .i64 other] w fun e w' => e = .returned (.bool (inPath path other)) ∧ Below w.heap.size w w' := by
  by_cases ho : 0 ≤ other ∧ other < ns.length
  · exact callsIn_wide.1 (above_in h i hi other ho path hpath)
  · have e : inPath path other = false := by
      simp only [inPath, List.any_eq_false]
      intro x hx e
      have h1 := path_lt hpath x hx
      have h2 : (x : Int) = other := by simpa using e
      omega
    rw [e]
    exact above_no h i other (by simp [hasM, hi]; omega)

def coversM (i : Nat) (n : NodeM) (p : Nat) (path : List Nat) : Bool := if n.first = -1 ∧ n.inner = -1 then i == p else inPath path i

set_option maxHeartbeats 1000000 in
theorem covers_any {w : World} {base bA bS g cap : Nat} {ns : List NodeM} (h : Ar w base bA bS g cap ns) (i : Nat) (n : NodeM) (hi : ns[i]? = some n) (p : Nat) (hp : p < ns.length) (path : List Nat) (hpath : PathOf (upF ns) p path) :
    Calls Try.prog 130 #[.pointer (some ⟨bA, 0, none⟩), .int .i64 i, .int .i64 p] w fun e w' => e = .returned (.bool (coversM i n p path)) ∧ Below w.heap.size w w' := by
  have hlt : i < ns.length := (List.getElem?_eq_some_iff.1 hi).1
  have hm := h.most
  obtain ⟨c0, c1, c2, c3, c4, c5, c6, c7, c8, c9, c10, c11⟩ := h.cells12 hi
  obtain ⟨ao, co, hav, _⟩ : ∃ a c, n.av = .slice a n.attrs.length c ∧ True := by
    rcases (h.attrs i n hi).2 with ⟨e, h0⟩ | ⟨g', off', cap', cur, e, _⟩
    · exact ⟨Option.none, 0, by rw [e, h0], trivial⟩
    · exact ⟨_, _, e, trivial⟩
  rw [hav] at c3
  have hA := h.cA
  have hS := h.cS
  have HA := hide (above_yes (h.alloc (.cells #[.int .i64 n.kind, .int .i64 n.space, .string n.name, .slice ao n.attrs.length co, .string n.data, .string n.system, .int .i64 n.parent, .int .i64 n.first, .int .i64 n.last, .int .i64 n.prev, .int .i64 n.next, .int .i64 n.inner] 37)) p hp i path hpath)
  have HB := hide ((Below.refl _ w).alloc (Nat.le_refl _) (.cells #[.int .i64 n.kind, .int .i64 n.space, .string n.name, .slice ao n.attrs.length co, .string n.data, .string n.system, .int .i64 n.parent, .int .i64 n.first, .int .i64 n.last, .int .i64 n.prev, .int .i64 n.next, .int .i64 n.inner] 37))
  clear h hi hpath hav
  by_cases h1 : n.first = -1
  · by_cases h2 : n.inner = -1
    · have e : coversM i n p path = ((i : Int) == (p : Int)) := by
        simp only [coversM, h1, h2, and_self, if_true]
        rw [Bool.eq_iff_iff]; simp; omega
      rw [e]
      have f1 : (n.first == -1) = true := by simp [h1]
      have f2 : (n.inner == -1) = true := by simp [h2]
      clear e h1 h2 HA
      go_enter Try.func130, Try.ntmps130
      go_wp2
      go_ret
      exact ⟨rfl, unhide HB⟩
    · have e : coversM i n p path = inPath path i := by simp [coversM, h2]
      rw [e]
      have f1 : (n.first == -1) = true := by simp [h1]
      have f2 : (n.inner == -1) = false := by simp [h2]
      clear e h1 h2
      go_enter Try.func130, Try.ntmps130
      go_wp2_with (go_at_call 20; refine (unhide HA).mono ?_; rintro e w' ⟨rfl, hb⟩)
      go_ret
      exact ⟨rfl, (unhide HB).trans (hb.mono (by simp))⟩
  · have e : coversM i n p path = inPath path i := by simp [coversM, h1]
    rw [e]
    have f1 : (n.first == -1) = false := by simp [h1]
    clear e h1
    go_enter Try.func130, Try.ntmps130
    go_wp2_with (go_at_call 20; refine (unhide HA).mono ?_; rintro e w' ⟨rfl, hb⟩)
    go_ret
    exact ⟨rfl, (unhide HB).trans (hb.mono (by simp))⟩

/-- The cells of a copied node. -/
def copyCells (n : NodeM) (ao : Option Addr) (co : Nat) : Array Value := #[.int .i64 n.kind, .int .i64 n.space, .string n.name, .slice ao n.attrs.length co, .string n.data, .string n.system, .int .i64 n.parent, .int .i64 n.first, .int .i64 n.last, .int .i64 n.prev, .int .i64 n.next, .int .i64 n.inner]

theorem av_form {w : World} {base bA bS g cap : Nat} {ns : List NodeM} (h : Ar w base bA bS g cap ns) {i : Nat} {n : NodeM} (hi : ns[i]? = some n) : ∃ a c, n.av = .slice a n.attrs.length c := by
  rcases (h.attrs i n hi).2 with ⟨e, h0⟩ | ⟨g', off', cap', cur, e, _⟩
  · exact ⟨Option.none, 0, by rw [e, h0]⟩
  · exact ⟨_, _, e⟩

set_option maxHeartbeats 2000000 in
/-- One of the three is no node. -/
theorem mayLink_none {w : World} {base bA bS g cap : Nat} {ns : List NodeM} (h : Ar w base bA bS g cap ns) (p c b : Int) (hno : (hasM ns p && hasM ns c && (b == -1 || hasM ns b)) = false) :
    Calls Try.prog 91 #[.pointer (some ⟨bA, 0, none⟩), .int .i64 p, .int .i64 c, .int .i64 b] w fun e w' => e = .returned (.int .i64 6) ∧ w = w' := by
  have HM := hide (made_yes h)
  have HH := hide (fun k => has_any h k)
  clear h
  cases hp : hasM ns p with
  | false =>
    go_enter Try.func91, Try.ntmps91
    go_wp2_with (first
      | (go_at_call 53; refine (unhide HM).mono ?_; rintro e w' ⟨rfl, rfl⟩)
      | (go_at_call 54; refine (unhide HH _).mono ?_; rintro e w' ⟨rfl, rfl⟩))
    go_ret
    exact ⟨rfl, rfl⟩
  | true =>
    cases hc : hasM ns c with
    | false =>
      go_enter Try.func91, Try.ntmps91
      go_wp2_with (first
        | (go_at_call 53; refine (unhide HM).mono ?_; rintro e w' ⟨rfl, rfl⟩)
        | (go_at_call 54; refine (unhide HH _).mono ?_; rintro e w' ⟨rfl, rfl⟩))
      go_ret
      exact ⟨rfl, rfl⟩
    | true =>
      have h1 : (b == -1) = false ∧ hasM ns b = false := by simpa [hp, hc] using hno
      obtain ⟨h1, h2⟩ := h1
      have h1' : (b != -1) = true := by simpa using h1
      go_enter Try.func91, Try.ntmps91
      go_wp2_with (first
        | (go_at_call 53; refine (unhide HM).mono ?_; rintro e w' ⟨rfl, rfl⟩)
        | (go_at_call 54; refine (unhide HH _).mono ?_; rintro e w' ⟨rfl, rfl⟩))
      go_ret
      exact ⟨rfl, rfl⟩

/-- What is asked of two nodes that are there: a kind that can't be; a link that can't be; a place that can't be. -/
def mayM (ns : List NodeM) (p : Nat) (np : NodeM) (c : Nat) (nc : NodeM) (b : Int) (path : List Nat) : Int :=
  if parentM np.kind = false ∨ nc.kind = 0 ∨ nc.kind = 5 then 10
  else if nc.parent ≠ -1 ∨ coversM c nc p path = true then 11
  else if b ≠ -1 ∧ (ns[b.toNat]?).map (·.parent) ≠ some (p : Int) then 1 else 0
end Go.Proofs.Ytlbkoafeedlfaaa
