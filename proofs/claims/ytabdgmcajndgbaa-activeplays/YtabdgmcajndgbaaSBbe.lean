/-
  The document's list: what stands at a place; what stands last taken off. The document's list: the entries behind the last marker taken off, and the marker.
-/
import Derived.Test.YtabdgmcajndgbaaSBay
namespace Go.Proofs.Ytabdgmcajndgbaa
open Go.RowKit Go.Sort

def EntQ.agg (x : EntQ) : Value := .agg x.cells.toArray
section
variable {w : World} {base bQ bR : Nat} {v : Value} {qs : List EntQ} {F : Nat → Prop}
set_option maxHeartbeats 2000000 in
theorem qat_yes (h : QlM w base bQ bR v qs) (i : Nat) {x : EntQ} (hi : qs[i]? = some x) : Calls Try.prog 12 #[.pointer (some ⟨bQ, 0, none⟩), .int .i64 i] w fun e w' => e = .returned (.tuple #[x.agg, .int .i64 0]) ∧ Below w.heap.size w w' := by
  have hb0 : Below w.heap.size w (w.alloc zeroEO) := below_new _ _
  obtain ⟨c0, c1, f1⟩ := (h.below hb0).cells
  obtain ⟨g, cap, rfl, hc⟩ := (h.below hb0).at hi
  have hlt : (i : Int) < (qs.length : Int) := by have := (List.getElem?_eq_some_iff.1 hi).1; omega
  have hi0 : (0 : Int) ≤ (i : Int) := by omega
  have hgz : g ≠ w.heap.size := by
    have := (h.own.lt g rfl).2
    omega
  obtain ⟨x0, ⟨t0, t1, t2, t3, t4, t5, t6, t7, ta⟩, a, cp⟩ := x
  have a0 := hc 0 (by omega)
  have a1 := hc 1 (by omega)
  have a2 := hc 2 (by omega)
  have a3 := hc 3 (by omega)
  have a4 := hc 4 (by omega)
  have a5 := hc 5 (by omega)
  have a6 := hc 6 (by omega)
  have a7 := hc 7 (by omega)
  have a8 := hc 8 (by omega)
  have a9 := hc 9 (by omega)
  simp only [EntQ.cells, EntQ.av, TokM.cells, zeroEO, EntQ.agg, List.getElem?_cons_zero, List.getElem?_cons_succ, Nat.add_zero] at *
  clear h hb0 hi hc
  go_enter Try.func12, Try.ntmps12
  go_wp2
  exact bodyPost_ret (ret_two Try.results12 _ _ w.heap.size _ _ rfl rfl (run_loadVar_row _ _ _ _ _ _ _ (heap_alloc_new w _) Try.underlying46 rfl (by kernel_rfl))) rfl ⟨rfl, below_new _ _⟩

set_option maxHeartbeats 2000000 in
theorem qat_no (h : QlM w base bQ bR v qs) (i : Int) (hi : i < 0 ∨ (qs.length : Int) ≤ i) : Calls Try.prog 12 #[.pointer (some ⟨bQ, 0, none⟩), .int .i64 i] w fun e w' => e = .returned (.tuple #[zeroEV, .int .i64 1]) ∧ Below w.heap.size w w' := by
  have hb0 : Below w.heap.size w (w.alloc zeroEO) := below_new _ _
  obtain ⟨c0, c1, f1⟩ := (h.below hb0).cells
  obtain ⟨va, vc, rfl⟩ := h.len
  unfold zeroEO at *
  clear h hb0
  by_cases h0 : i < 0
  · clear hi
    go_enter Try.func12, Try.ntmps12
    go_wp2
    exact bodyPost_ret (ret_two Try.results12 _ _ w.heap.size _ _ rfl rfl (run_loadVar_row _ _ _ _ _ _ _ (heap_alloc_new w _) Try.underlying46 rfl (by kernel_rfl))) rfl ⟨rfl, below_new _ _⟩
  · have h1 : (qs.length : Int) ≤ i := by omega
    clear hi
    go_enter Try.func12, Try.ntmps12
    go_wp2
    exact bodyPost_ret (ret_two Try.results12 _ _ w.heap.size _ _ rfl rfl (run_loadVar_row _ _ _ _ _ _ _ (heap_alloc_new w _) Try.underlying46 rfl (by kernel_rfl))) rfl ⟨rfl, below_new _ _⟩

/-- Without its last ones. -/
theorem QlM.less (h : QlM w base bQ bR v qs) {x : EntQ} {l : List EntQ} (e : qs = l ++ [x]) {a : Option Addr} {cap : Nat} (hv : v = .slice a qs.length cap) (hF : ∀ k, F k ↔ footQ bQ v k) :
    QlM (w.setCell ⟨bQ, 1, none⟩ (.slice a l.length cap)) base bQ bR (.slice a l.length cap) l ∧ Mod F w (w.setCell ⟨bQ, 1, none⟩ (.slice a l.length cap)) ∧ ∀ k, F k ↔ footQ bQ (.slice a l.length cap) k := by
  subst e hv
  have hlen : (l ++ [x]).length = l.length + 1 := by simp
  have hob : (Value.slice a (l ++ [x]).length cap).ownBlock = (Value.slice a l.length cap).ownBlock := by cases a <;> rfl
  have hm : Mod F w (w.setCell ⟨bQ, 1, none⟩ (.slice a l.length cap)) := Mod.setCell _ _ _ ((hF _).2 (.inl rfl))
  have hown : w.ownsRow base 46 10 (.slice a l.length cap) l.length (qRow l) := by
    obtain ⟨h1, h2⟩ := h.own
    refine ⟨by rw [qRow, flat_len EntQ.cells 10 entQ_len l], ?_⟩
    rcases h2 with ⟨_, h0⟩ | ⟨g, c, cur, e1, e2, e3, e4, e5, e6, e7⟩
    · rw [hlen] at h0; omega
    · simp only [Value.slice.injEq] at e1
      obtain ⟨rfl, _, rfl⟩ := e1
      refine .inr ⟨g, cap, cur, rfl, e2, e3, by omega, e5, e6, ?_⟩
      have : qRow (l ++ [x]) = qRow l ++ x.cells := by simp [qRow]
      rw [this, hlen] at e7
      have h9 := congrArg (List.take (l.length * 10)) e7
      have hq : (qRow l).length = l.length * 10 := by rw [qRow, flat_len EntQ.cells 10 entQ_len l]
      rw [List.take_take, Nat.min_eq_left (by omega)] at h9
      rw [h9, ← hq, List.take_left]
  refine ⟨⟨?_, ownsRow_setCell_other hown (fun e => ?_) _, fun i y hy => ?_, h.lo⟩, hm, fun k => ?_⟩
  · have := heap_setCell_same w bQ 1 _ 43 (.slice a l.length cap) h.box
    simpa using this
  · obtain ⟨cur, hc⟩ := ownsRow_block hown e
    rw [h.box] at hc
    cases hc
  · have hlt := (List.getElem?_eq_some_iff.1 hy).1
    have hL := h.attrs i y (by rw [List.getElem?_append_left hlt]; exact hy)
    refine ⟨hL.1.modN (fun b off e hne => ?_), hL.2⟩
    have hb := hL.2 b off e hne
    have := h.lo
    exact Below.heap_setCell _ _ _ _ (by simp only; omega)
  · rw [hF k]
    unfold footQ
    rw [hob]
end
end Go.Proofs.Ytabdgmcajndgbaa

namespace Go.Proofs.Ytabdgmcajndgbaa
open Go.RowKit Go.Sort

/-- How many entries Clear leaves of the first n. -/
def keepQ (qs : List EntQ) : Nat → Nat
  | 0 => 0
  | n + 1 => match qs[n]? with
    | some x => if x.node = -1 then n else keepQ qs n
    | none => keepQ qs n
section
variable {w : World} {base bQ bR : Nat} {v : Value} {qs : List EntQ} {F : Nat → Prop}
theorem keepQ_le (qs : List EntQ) : ∀ n, keepQ qs n ≤ n
  | 0 => Nat.le_refl _
  | n + 1 => by
    have := keepQ_le qs n
    unfold keepQ
    split
    · split <;> omega
    · omega
set_option maxHeartbeats 2000000 in
theorem qclear_any (h : QlM w base bQ bR v qs) (hF : ∀ k, F k ↔ footQ bQ v k) (hl : qs.length < 1000000000000) : Calls Try.prog 25 #[.pointer (some ⟨bQ, 0, none⟩)] w fun e w' => e = .returned (.int .i64 ((qs.length : Int) - (keepQ qs qs.length : Int))) ∧ UpdQ F w w' base bQ bR (qs.take (keepQ qs qs.length)) := by
  obtain ⟨r, hr⟩ : ∃ r, (qs.length : Int) - (keepQ qs qs.length : Int) = r := ⟨_, rfl⟩
  rw [hr]
  have HR := hide hr
  have HL := hide hl
  obtain ⟨va, vc, rfl⟩ := h.len
  have HST : Hid (QlM w base bQ bR (.slice va qs.length vc) (qs.take qs.length)) := hide (by rw [List.take_length]; exact h)
  have HM0 := hide (Mod.refl F w)
  have HF0 := hide hF
  clear h hF hl hr
  go_enter Try.func25, Try.ntmps25
  go_wp2
  go_loopg [3] qs.length (fun g s3 wr => s3 = .int .i64 ((qs.length : Int) - (g : Int)) ∧ g ≤ qs.length ∧ QlM wr base bQ bR (.slice va g vc) (qs.take g) ∧ Mod F w wr ∧ keepQ qs qs.length = keepQ qs g)
  case atStart => exact ⟨by simp, Nat.le_refl _, unhide HST, unhide HM0, rfl⟩
  case round =>
    obtain ⟨rfl, hgl, hq, hm, hk⟩ := hrel
    have HQ := hide hq
    have HM := hide hm
    have HK := hide hk
    obtain ⟨c0, c1, f1⟩ := hq.cells
    have f1 := f1 1
    cases gk with
    | zero =>
      clear hq hm hk
      go_wp2
      go_ret
      refine ⟨?_, footQ bQ (.slice va 0 vc), ⟨_, by rw [unhide HK]; exact unhide HQ, fun _ => Iff.rfl⟩, unhide HM, fun k hk => .inl (((unhide HF0) k).2 ?_)⟩
      · have e := unhide HR
        rw [unhide HK] at e
        rw [← e]
        rfl
      · unfold footQ at hk ⊢
        cases va <;> exact hk
    | succ n =>
      have hn : n < qs.length := by omega
      obtain ⟨x, hx⟩ : ∃ x, qs[n]? = some x := ⟨_, List.getElem?_eq_getElem hn⟩
      have hx2 : (qs.take (n + 1))[n]? = some x := by rw [List.getElem?_take, if_pos (by omega)]; exact hx
      obtain ⟨g, cap, e, hc⟩ := hq.at hx2
      simp only [Value.slice.injEq] at e
      obtain ⟨rfl, el, rfl⟩ := e
      clear el
      have c2 := hc 0 (by omega)
      have hcap : n + 1 ≤ vc := by
        rcases hq.own.2 with ⟨e, _⟩ | ⟨_, _, _, e, _, _, h4, _⟩
        · simp at e
        · simp only [Value.slice.injEq] at e
          obtain ⟨_, _, rfl⟩ := e
          rw [List.length_take] at h4
          omega
      have hls : QlM (wr.setCell ⟨bQ, 1, none⟩ (.slice (some ⟨g, 0, none⟩) n vc)) base bQ bR (.slice (some ⟨g, 0, none⟩) n vc) (qs.take n) ∧ Mod F w (wr.setCell ⟨bQ, 1, none⟩ (.slice (some ⟨g, 0, none⟩) n vc)) := by
        have e1 : (qs.take n).length = n := by rw [List.length_take]; omega
        have e2 : (qs.take (n + 1)).length = n + 1 := by rw [List.length_take]; omega
        have h9 := hq.less (F := F) (x := x) (l := qs.take n) (by rw [List.take_add_one, hx]; rfl) (a := some ⟨g, 0, none⟩) (cap := vc) (by rw [e2]) (fun k => (unhide HF0) k)
        rw [e1] at h9
        exact ⟨h9.1, hm.trans h9.2.1⟩
      have HLS : Hid (QlM (wr.setCell ⟨bQ, 1, none⟩ (.slice (some ⟨g, 0, none⟩) n vc)).drew.drew base bQ bR (.slice (some ⟨g, 0, none⟩) n vc) (qs.take n) ∧ Mod F w (wr.setCell ⟨bQ, 1, none⟩ (.slice (some ⟨g, 0, none⟩) n vc)).drew.drew) := hide ⟨hls.1.mod (G := fun _ => False) ((mod_drew _).trans (mod_drew _)) (fun _ _ e => e) (fun _ e => e.elim), hls.2.trans ((mod_drew _).trans (mod_drew _))⟩
      have HKN : Hid (keepQ qs (n + 1) = if x.node = -1 then n else keepQ qs n) := hide (by rw [keepQ, hx])
      have HX := hide hx
      have HN := hide hn
      simp only [EntQ.cells, List.getElem?_cons_zero, Nat.add_zero] at c2
      have hz : (qs.length : Int) < 1000000000000 := by have := unhide HL; omega
      have hnz : (n : Int) < (qs.length : Int) := by omega
      have hcz : (n : Int) ≤ (vc : Int) := by omega
      have hn0 : (0 : Int) ≤ (n : Int) := by omega
      clear hq hm hk hx hx2 hc hn hgl hcap hls
      generalize hm1 : n + 1 = m at *
      have hmn : (m : Int) - 1 = (n : Int) := by omega
      have hmp : (0 : Int) < (m : Int) := by omega
      have hnm : (n : Int) < (m : Int) := by omega
      have hmz : (m : Int) ≤ (qs.length : Int) := by omega
      have HM1 := hide hm1
      have hw1 : IntKind.i64.wrap ((qs.length : Int) - (m : Int) + 1) = (qs.length : Int) - (n : Int) := by rw [IntKind.wrap_i64]; omega
      have hw2 : IntKind.i64.wrap ((m : Int) - 1) = (n : Int) := by rw [IntKind.wrap_i64]; omega
      clear hm1 hz hnz hmz hmn
      cases hq : (x.node == -1) with
      | true =>
        have HQ2 := hide hq
        go_wp2
        go_region
        go_wp2
        go_region
        go_wp2
        go_ret
        have e0 : keepQ qs qs.length = n := by rw [unhide HK, unhide HKN, if_pos (eq_of_beq (unhide HQ2))]
        refine ⟨?_, footQ bQ (.slice (some ⟨g, 0, none⟩) n vc), ⟨_, by rw [e0]; exact (unhide HLS).1, fun _ => Iff.rfl⟩, (unhide HLS).2, fun k hk => .inl (((unhide HF0) k).2 hk)⟩
        have e := unhide HR
        rw [e0] at e
        rw [← e]
        rfl
      | false =>
        have HQ2 := hide hq
        go_wp2
        go_region
        go_wp2
        go_region
        go_wp2
        go_roundg n
        case measure => have := unhide HM1; omega
        case rel => exact ⟨rfl, by have := unhide HN; omega, (unhide HLS).1, (unhide HLS).2, by rw [unhide HK, unhide HKN, if_neg (by have := unhide HQ2; simpa using this)]⟩
end
end Go.Proofs.Ytabdgmcajndgbaa
