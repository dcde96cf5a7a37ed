/-
  Kids: a range over a function that goes over the children.
-/
import Derived.Test.YtlbkoafeedlfaaaSBae
import Derived.RegionIn
import Derived.RangeFuncBox
import Derived.Maps.AppendAt
namespace Go.Proofs.Ytlbkoafeedlfaaa
open Go.RowKit Go.Shelf
attribute [local go_sem] Oper.semAt_some

def nextF (ns : List NodeM) (i : Nat) : Option Int := (ns[i]?).map (·.next)

set_option maxRecDepth 100000 in
set_option maxHeartbeats 1000000 in
theorem kids1_in {base bA bS g cap : Nat} {ns : List NodeM} (n : Nat) (hn : 1 ≤ n) (l Bi Ba : Nat) (P : Nat → Prop) (hPf : ∀ k, foot bA bS g ns k → P k) (hPa : P Ba) (path : List Nat) (i : Nat) (ni : NodeM) (hni : ns[i]? = some ni) (J Jx : List Nat → World → Prop)
    (hY : ∀ pre x W, J pre W → pre.length < path.length → YieldAt Fence.wide (n - 1) Try.prog l #[.int .i64 ((x : Nat) : Int)] W fun e W' =>
      (e = .returned (.bool true) ∧ J (pre ++ [x]) W' ∧ KeepP P W W') ∨ (e = .returned (.bool false) ∧ Jx (pre ++ [x]) W'))
    (W : World) (hBi : W.cell? ⟨Bi, 0, none⟩ = some (.int .i64 i)) (hBa : W.heap[Ba]? = some (.cells #[.pointer (some ⟨bA, 0, none⟩)] 23 (0, 0))) (har : Ar W base bA bS g cap ns)
    (hpath : PathOf (nextF ns) ni.first path) (hJd : ∀ pre w1, J pre w1 → J pre w1.drew) (h0 : J [] W) :
    CallsIn Fence.wide n Try.prog 102 #[.func (.yield l) #[] #[], .pointer (some ⟨Ba, 0, none⟩), .pointer (some ⟨Bi, 0, none⟩)] W fun e W' => (∃ v, e = .returned v) ∧
      ((∃ ys, ys = path ∧ J ys W') ∨ (∃ pre, pre <+: path ∧ Jx pre W')) := by
  have hcB := cell_of_one hBa
  have hA := har.cA
  have hS := har.cS
  have hc7 := (har.cells12 hni).2.2.2.2.2.2.2.1
  have hlt : i < ns.length := (List.getElem?_eq_some_iff.1 hni).1
  have hm := har.most
  have HHA := hide har
  have HHB := hide hBa
  have HHP := hide hpath
  have hi0 : (0 : Int) ≤ (i : Int) := Int.natCast_nonneg _
  have hi1 : (i : Int) < (ns.length : Int) := by omega
  clear har hBa hpath hni
  refine callsIn_of_wp Try.func102 rfl trivial ?_ rfl
  simp only [Try.ntmps102, List.size_toArray, List.length_cons, List.length_nil, Nat.reduceAdd, Nat.reduceSub, Array.replicate_succ, Array.replicate_zero, List.push_toArray, List.append_toArray, List.nil_append, List.cons_append]
  gi_wp2
  gi_region
  gi_wp2
  gi_loopw [4] (fun p wr => ∃ (pre rest : List Nat) (q : Int), p = .int .i64 q ∧ path = pre ++ rest ∧ PathOf (nextF ns) q rest ∧ J pre wr ∧ Ar wr base bA bS g cap ns ∧ wr.heap[Ba]? = some (.cells #[.pointer (some ⟨bA, 0, none⟩)] 23 (0, 0)))
    (fun p _ => pathLen (nextF ns) path.length (intOf p))
  case atStart =>
    exact ⟨[], path, ni.first, rfl, rfl, unhide HHP, hJd _ _ h0, (unhide HHA).drew, unhide HHB⟩
  case round =>
    obtain ⟨pre, rest, q, rfl, hx, hl, hJs, harr, hBar⟩ := hrel
    clear hA hS hc7 hcB
    cases rest with
    | nil =>
      obtain rfl : q = -1 := hl
      gi_wp2
      refine ⟨fun _ _ => trivial, ?_⟩
      gi_wp2
      go_end0
      exact ⟨⟨_, rfl⟩, .inl ⟨pre, by simp [hx], hJs⟩⟩
    | cons x rest =>
      have hl' := hl
      obtain ⟨rfl, m, hm', hr⟩ := hl
      obtain ⟨nd, hnd, rfl⟩ : ∃ nd, ns[x]? = some nd ∧ nd.next = m := by simpa [nextF] using hm'
      obtain ⟨fn, tmps, assign, body, hy, hR⟩ := hY pre x wr hJs (by rw [hx]; simp)
      have hq : ((x : Int) != -1) = true := by rw [bne_iff_ne]; omega
      have hxl : x < ns.length := (List.getElem?_eq_some_iff.1 hnd).1
      have HX := hide hx
      have HL := hide hl'
      have HR := hide hr
      have HA := hide harr
      have HB := hide hBar
      have HN := hide hnd
      clear hx hl' hr harr hBar hnd hm'
      gi_wp2
      refine hR.mono ?_
      rintro e W3 (⟨rfl, hJ3, hk3⟩ | ⟨rfl, hJx3⟩)
      · have har3 := (unhide HA).keepP hPf hk3
        have hB3 := (hk3 Ba hPa).trans (unhide HB)
        have hc3 := cell_of_one hB3
        have hA3 := har3.cA
        have hS3 := har3.cS
        have hc10 := (har3.cells12 (unhide HN)).2.2.2.2.2.2.2.2.2.2.1
        have HA3 := hide har3
        have HB3 := hide hB3
        clear har3 hB3
        gi_wp2
        go_roundw
        case rel => exact ⟨pre ++ [x], rest, _, rfl, by simp [unhide HX], unhide HR, hJ3, unhide HA3, unhide HB3⟩
        case measure =>
          have e1 := unhide HX
          have h1 := pathLen_eq path.length (unhide HR) (by rw [e1]; simp; omega)
          have h2 := pathLen_eq path.length (unhide HL) (by rw [e1]; simp)
          simp only [intOf]
          rw [h1, h2]; simp
      · gi_wp2
        go_end0
        exact ⟨⟨_, rfl⟩, .inr ⟨pre ++ [x], ⟨rest, by simp [unhide HX]⟩, hJx3⟩⟩

theorem children_in (n : Nat) (k : Int) (w : World) (q : Option Addr) :
    CallsIn Fence.wide n Try.prog 56 #[.pointer q, .int .i64 k] w fun e w' => e = .returned (.func (.func 102) #[] #[.pointer (some ⟨w.heap.size, 0, none⟩), .pointer (some ⟨w.heap.size + 1, 0, none⟩)]) ∧
      w' = (w.alloc (.cells #[.pointer q] 23)).alloc (.cells #[.int .i64 k] 3) := by
  refine callsIn_of_wp Try.func56 rfl trivial ?_ rfl
  simp only [Try.ntmps56, List.size_toArray, List.length_cons, List.length_nil, Nat.reduceAdd, Nat.reduceSub, Array.replicate_succ, Array.replicate_zero, List.push_toArray, List.append_toArray, List.nil_append, List.cons_append]
  gi_wp2
  go_ret
  exact ⟨rfl, rfl⟩

theorem kids_stops {base bA bS g cap : Nat} {ns : List NodeM} (n : Nat) (hn : 1 ≤ n) (Bi Ba : Nat) (P : Nat → Prop) (hPf : ∀ k, foot bA bS g ns k → P k) (hPa : P Ba) (path : List Nat) (i : Nat) (ni : NodeM) (hni : ns[i]? = some ni)
    (w : World) (hBi : w.cell? ⟨Bi, 0, none⟩ = some (.int .i64 i)) (hBa : w.heap[Ba]? = some (.cells #[.pointer (some ⟨bA, 0, none⟩)] 23 (0, 0))) (har : Ar w base bA bS g cap ns) (hpath : PathOf (nextF ns) ni.first path) :
    SeqStopsK Fence.wide n Try.prog 102 #[.pointer (some ⟨Ba, 0, none⟩), .pointer (some ⟨Bi, 0, none⟩)] (fun x : Nat => #[Value.int .i64 (x : Int)]) (KeepP P) (fun ys => ys = path) (fun pre => pre <+: path) path.length w := fun l J Jx W hW hJ _ hY h0 =>
  kids1_in n hn l Bi Ba P hPf hPa path i ni hni J Jx hY W ((hW.cell (p := ⟨Bi, 0, none⟩) (World.block_lt_of_cell? w _ hBi)).trans hBi) ((hW.block Ba (lt_of_block hBa)).trans hBa) (har.below hW) hpath
    (fun pre w1 hj => hJ pre w1 w1.drew Option.none hj ⟨rfl, rfl, rfl, Nat.le_refl _, fun _ _ _ => rfl⟩ (fun r e => by cases e)) h0

theorem Try.info3 : (Try.prog.info? 3).map (fun i => (i.zero, i.size, i.bytes)) = some (some (.int .i64 0), 1, 8) := by kernel_rfl

def intsV (l : List Nat) : List Value := l.map fun (x : Nat) => Value.int .i64 (x : Int)

set_option maxRecDepth 100000 in
set_option maxHeartbeats 2000000 in
theorem kids_in {w : World} {base bA bS g cap : Nat} {ns : List NodeM} (h : Ar w base bA bS g cap ns) (i : Nat) (ni : NodeM) (hni : ns[i]? = some ni) (path : List Nat) (hpath : PathOf (nextF ns) ni.first path) (hlen : path.length ≤ 32768) :
    CallsIn Fence.wide 4 Try.prog 19 #[.pointer (some ⟨bA, 0, none⟩), .int .i64 i] w fun e w' => ∃ v, e = .returned v ∧ w'.ownsRow w.heap.size 3 1 v path.length (intsV path) ∧ Below w.heap.size w w' := by
  have hlt : i < ns.length := (List.getElem?_eq_some_iff.1 hni).1
  have HH1 := hide (has_any h i)
  have e1 : hasM ns i = true := by simp [hasM, hlt]
  rw [e1] at HH1
  have HA := hide h
  have HP := hide hpath
  have HN := hide hni
  obtain ⟨i0, hi, hz0, hz1, hz2⟩ := info_parts Try.info3
  clear e1 h hpath hni
  refine callsIn_of_wp_marks Try.func19 rfl trivial ?_ rfl
  simp only [Try.ntmps19, List.size_toArray, List.length_cons, List.length_nil, Nat.reduceAdd, Nat.reduceSub, Array.replicate_succ, Array.replicate_zero, List.push_toArray, List.append_toArray, List.nil_append, List.cons_append]
  gi_wp2_with fail
  refine ⟨trivial, (callsIn_wide.2 (unhide HH1)).mono ?_⟩
  rintro e w' ⟨rfl, rfl⟩
  gi_wp2_with fail
  refine ⟨trivial, (children_in _ _ _ _).mono ?_⟩
  rintro e w' ⟨rfl, rfl⟩
  gi_wp2_with fail
  have bO := Boxed.new w 41 (.slice none 0 0)
  have bN := Boxed.new (w.alloc (.cells #[.slice none 0 0] 41)) 23 (.pointer (some ⟨bA, 0, none⟩))
  have bI := Boxed.new ((w.alloc (.cells #[.slice none 0 0] 41)).alloc (.cells #[.pointer (some ⟨bA, 0, none⟩)] 23)) 3 (.int .i64 i)
  simp only [World.size_alloc] at bN bI
  have hB0 : Below w.heap.size w (((w.alloc (.cells #[.slice none 0 0] 41)).alloc (.cells #[.pointer (some ⟨bA, 0, none⟩)] 23)).alloc (.cells #[.int .i64 i] 3)) := (((Below.refl _ w).alloc (Nat.le_refl _) _).alloc (by simp) _).alloc (by simp; omega) _
  have har3 := (((unhide HA).alloc (.cells #[.slice none 0 0] 41)).alloc (.cells #[.pointer (some ⟨bA, 0, none⟩)] 23)).alloc (.cells #[.int .i64 i] 3)
  have hPf : ∀ k, foot bA bS g ns k → (k < w.heap.size ∨ k = w.heap.size + 1) := fun k hk => .inl ((unhide HA).foot_lt hk).2
  have path0 := unhide HP
  have hn0 := unhide HN
  refine wpIn_rangeFunc_ownG (w0 := (((w.alloc (.cells #[.slice none 0 0] 41)).alloc (.cells #[.pointer (some ⟨bA, 0, none⟩)] 23)).alloc (.cells #[.int .i64 i] 3))) rfl (by omega) (gf := 102) (lb := #[.pointer (some ⟨w.heap.size + 1, 0, none⟩), .pointer (some ⟨w.heap.size + 1 + 1, 0, none⟩)]) rfl trivial (enters_of Try.func102 (by kernel_rfl) rfl)
    (kids_stops 3 (by omega) (w.heap.size + 1 + 1) (w.heap.size + 1) (fun k => k < w.heap.size ∨ k = w.heap.size + 1) hPf (.inr rfl) path i ni hn0 _ bI.cell (bN.alloc _) har3 path0) keepP_t (keepP_b (by intro k hk; simp; omega)) (Below.refl _ _) (fun _ => rfl)
    (fun pre W => ((∃ v, Boxed W w.heap.size 41 v ∧ W.ownsRow w.heap.size 3 1 v pre.length (intsV pre) ∧ True) ∧ Boxed W (w.heap.size + 1) 23 (.pointer (some ⟨bA, 0, none⟩))) ∧ Below w.heap.size w W)
    (fun _ _ _ => False)
    (OwnFrom.and (OwnFrom.and (Own.from (holdsRow_own w.heap.size w.heap.size 41 3 1 (fun pre => pre.length) (fun pre => intsV pre) (fun _ _ => True)) _) (Own.from (boxed_own (w.heap.size + 1) 23 (fun _ => .pointer (some ⟨bA, 0, none⟩))) _)) (ownFrom_below (Nat.le_refl _) (by simp; omega)))
    (fun _ _ _ _ _ hs _ _ => hs)
    ⟨⟨⟨_, (bO.alloc _).alloc _, World.ownsRow_nil _ _ _ _, trivial⟩, bN.alloc _⟩, hB0⟩
    (fun x => { tmps := #[.pointer (some ⟨bA, 0, none⟩), .int .i64 i, undef, undef, .slice none 0 0, .pointer (some ⟨w.heap.size, 0, none⟩), .int .i64 x, .pointer (some ⟨bA, 0, none⟩), .int .i64 i, .bool true, .bool false, .pointer (some ⟨bA, 0, none⟩), .int .i64 i, .func (.func 102) #[] #[.pointer (some ⟨w.heap.size + 1, 0, none⟩), .pointer (some ⟨w.heap.size + 1 + 1, 0, none⟩)], .int .i64 x, undef, undef, undef, undef, undef], defers := [] }) ?assign ?body ?done ?stop
  case assign =>
    intro l x W K hK
    gi_wp2
    exact hK
  case body =>
    rintro l pre x W ⟨⟨⟨v, hv, hrow, _⟩, hbx⟩, hB⟩ hlt'
    have hc := hv.cell
    clear bO bN bI hB0 har3 hPf path0 hn0
    gi_wp2_with (gi_at_builtin; refine wpListIn_append_own _ rfl _ _ 41 rfl w.heap.size 3 i0 (.int .i64 0) 1 8 Try.underlying41 hi hz0 hz1 hz2 rfl (by decide) _ _ _ rfl (hrow.alloc _) ⟨W.heap.size, 0, none⟩ 1 1 [.int .i64 x] rfl rfl (cell_one_new _ _ _) (by simp [Value.oneCell']) (by unfold maxLen; omega) (by omega) (by have := hB.size; simp; omega) ?_; intro v' w1 hown' hgrow _; obtain ⟨g', cap', rfl⟩ := ownsRow_succ hown'; obtain ⟨hv1, hv2, hr2, hk2, hb2⟩ := hv.appended (by decide) hrow hB.size (Nat.le_refl _) hown' hgrow; have hbx2 := (((hbx.alloc _).kept hgrow (hbx.not_row (by decide) hrow)).other (B' := w.heap.size) (by omega) (.slice (some ⟨g', 0, none⟩) (pre.length + 1) cap')); have hc1 := hv1.cell; have hf1 := hv1.frozen)
    refine ⟨hk2.from _, ?_, ⟨⟨_, hv2, by simpa [intsV] using hr2, trivial⟩, hbx2⟩, hB.trans hb2⟩
    intro k hk
    rcases hk with hk | rfl
    · exact hb2.block k hk
    · exact (show _ = _ from hbx2).trans (show _ = _ from hbx).symm
  case done =>
    rintro D ys W hD rfl ⟨⟨⟨v, hv, hrow, _⟩, hbx⟩, hB⟩ hK
    have hc := hv.cell
    clear bO bN bI hB0 har3 hPf path0 hn0
    gi_wp2
    refine ⟨by simp, .inl ⟨_, _, rfl, run_takeDeferred hK, ?_⟩⟩
    exact ⟨_, results_tmp rfl _ _ _, v, rfl, ownsRow_putObj hrow _ hK rfl, hB.trans (belowK_b (w := w) (Nat.le_refl _) W D _ _ (by simp at hD; omega) hK rfl rfl)⟩
  case stop =>
    rintro D c pre W _ _ h _
    exact h.elim
end Go.Proofs.Ytlbkoafeedlfaaa
