/-
  slices.Delete of one attribute; DelAttr.
-/
import Derived.Test.YtlbkoafeedlfaaaAttr
namespace Go.Proofs.Ytlbkoafeedlfaaa
open Go.RowKit

/-- append within the capacity of a row of one's own, as one step of a region that draws its order. -/
theorem step_append_fits {P : Program} {ops : Array Oper} {o : Oper} {a : Act} {w : World} {K : Act → World → Prop} {Q : Exit → Act → World → Prop} {E : Prop}
    (hg : o.guard = none) (s x : Operand) (t : TypeId) (hop : o.op = Op.call { callee := Callee.builtin Builtin.append, args := #[s, x], argTypes := #[t, t] })
    (base : Nat) (e : TypeId) (i : TypeInfo) (size : Nat) (h1 : P.underlying t = some (.slice e)) (h2 : P.info? e = some i) (h4 : i.size = size)
    (g n cap : Nat) (xs : List Value) (hs : a.eval s = .slice (some ⟨g, 0, none⟩) n cap) (hown : w.ownsRow base e size (.slice (some ⟨g, 0, none⟩) n cap) n xs)
    (ad : Addr) (m c : Nat) (news : List Value) (hx : a.eval x = .slice (some ad) m c) (hn : news.length = m * size) (hc : ∀ j u, news[j]? = some u → w.cell? (ad.add j) = some u) (h1c : ∀ u ∈ news, u.oneCell' = true)
    (hroom : n + m ≤ cap)
    (hK : ∀ w', w'.ownsRow base e size (.slice (some ⟨g, 0, none⟩) (n + m) cap) (n + m) (xs ++ news) → w.grownBy w' (some g) → K (a.put o.dst (.slice (some ⟨g, 0, none⟩) (n + m) cap)) w') :
    if Region.wanted o (yielded ops a.tmps) = true then Oper.wp P o a w K Q else E := by
  have hw : Region.wanted o (yielded ops a.tmps) = true := by simp [Region.wanted, hg]
  rw [if_pos hw]
  obtain ⟨w', hrun, r1, r2⟩ := run_append_fits (P := P) w base t o.type e i size h1 h2 h4 g n cap xs hown ad m c news hn hc h1c hroom
  unfold Oper.wp
  simp [execOp, hop, resolve, invoke, builtin, hs, hx, hrun, Result.andThen]
  exact hK w' r1 r2

/-- The first part of a row of one's own is one's own. -/
theorem ownsRow_prefix {w : World} {base : Nat} {e : TypeId} {size : Nat} {g n cap : Nat} {xs : List Value} (h : w.ownsRow base e size (.slice (some ⟨g, 0, none⟩) n cap) n xs) (m : Nat) (hm : m ≤ n) :
    w.ownsRow base e size (.slice (some ⟨g, 0, none⟩) m cap) m (xs.take (m * size)) := by
  have hmul : m * size ≤ n * size := Nat.mul_le_mul_right _ hm
  rcases h.2 with ⟨h', _⟩ | ⟨g', cap', cur, h', hb, hg, hnc, hcm, hcs, htake⟩
  · simp at h'
  · simp only [Value.slice.injEq, Option.some.injEq, Addr.mk.injEq, and_true, true_and] at h'
    obtain ⟨rfl, rfl⟩ := h'
    refine ⟨by rw [List.length_take, h.1]; omega, .inr ⟨g, cap, cur, rfl, hb, hg, by omega, hcm, hcs, ?_⟩⟩
    rw [← htake, List.take_take, Nat.min_eq_left hmul]

theorem attrRow_drop (l : List AttrM) (k : Nat) : attrRow (l.drop k) = (attrRow l).drop (k * 4) := by
  induction l generalizing k with
  | nil => simp [attrRow]
  | cons x l ih =>
    cases k with
    | zero => simp
    | succ k =>
      have := ih k
      simp only [attrRow, List.drop_succ_cons, List.flatMap_cons] at this ⊢
      have d0 : List.drop ((k + 1) * 4) x.cells = [] := List.drop_eq_nil_of_le (by rw [attr_len]; omega)
      have e : (k + 1) * 4 - 4 = k * 4 := by omega
      rw [this, List.drop_append, d0, attr_len, e]; simp
theorem attrRow_take (l : List AttrM) (k : Nat) : attrRow (l.take k) = (attrRow l).take (k * 4) := by
  induction l generalizing k with
  | nil => simp [attrRow]
  | cons x l ih =>
    cases k with
    | zero => simp [attrRow]
    | succ k =>
      have := ih k
      simp only [attrRow, List.take_succ_cons, List.flatMap_cons] at this ⊢
      have d0 : List.take ((k + 1) * 4) x.cells = x.cells := List.take_of_length_le (by rw [attr_len]; omega)
      have e : (k + 1) * 4 - 4 = k * 4 := by omega
      rw [this, List.take_append, d0, attr_len, e]

theorem attrRow_erase (l : List AttrM) (j : Nat) : (attrRow l).take (j * 4) ++ attrRow (l.drop (j + 1)) = attrRow (l.eraseIdx j) := by
  rw [← attrRow_take, List.eraseIdx_eq_take_drop_succ]; simp [attrRow]

theorem ownsRow_there {w : World} {base : Nat} {e : TypeId} {size : Nat} {g n cap : Nat} {xs : List Value} (h : w.ownsRow base e size (.slice (some ⟨g, 0, none⟩) n cap) n xs) (r : Nat) (hr : r < cap * size) : ∃ v, w.cell? ⟨g, r, none⟩ = some v := by
  rcases h.2 with ⟨h', _⟩ | ⟨g', cap', cur, h', hb, hg, hnc, hcm, hcs, htake⟩
  · simp at h'
  · simp only [Value.slice.injEq, Option.some.injEq, Addr.mk.injEq, and_true, true_and] at h'
    obtain ⟨rfl, rfl⟩ := h'
    have hlt : r < cur.size := by omega
    exact ⟨cur[r], by simp [World.cell?, hg, hlt]⟩

theorem ownsRow_beyond {w : World} {base : Nat} {e : TypeId} {size : Nat} {g n cap : Nat} {xs : List Value} (h : w.ownsRow base e size (.slice (some ⟨g, 0, none⟩) n cap) n xs) (r : Nat) (hr : n * size ≤ r) (u : Value) :
    (w.setCell ⟨g, r, none⟩ u).ownsRow base e size (.slice (some ⟨g, 0, none⟩) n cap) n xs ∧ w.grownBy (w.setCell ⟨g, r, none⟩ u) (some g) := by
  have := h.stored r u
  rw [List.set_eq_of_length_le (by rw [h.1]; exact hr)] at this
  exact this

theorem grownBy_trans {a b c : World} {row : Option Nat} (h1 : a.grownBy b row) (h2 : b.grownBy c row) : a.grownBy c row :=
  ⟨h2.os.trans h1.os, h2.tape.trans h1.tape, h2.output.trans h1.output, Nat.le_trans h1.size h2.size, fun k hk hne => (h2.block k (Nat.lt_of_lt_of_le hk h1.size) hne).trans (h1.block k hk hne)⟩

def zeroA : List Value := [.int .i64 0, .string ⟨#[]⟩, .string ⟨#[]⟩, .string ⟨#[]⟩]

theorem clear_one {w : World} {base ga N cp : Nat} {xs : List Value} (hown : w.ownsRow base 29 4 (.slice (some ⟨ga, 0, none⟩) N cp) N xs) (hroom : N + 1 ≤ cp) (c : Nat) :
    ∃ w', (Builtin.clear_ #[30] 0 #[.slice (some ⟨ga, N * 4, none⟩) 1 c]).run Try.prog w = .ok (.tuple #[]) w' ∧ w'.ownsRow base 29 4 (.slice (some ⟨ga, 0, none⟩) N cp) N xs ∧ w.grownBy w' (some ga) := by
  rcases hown.2 with ⟨h', _⟩ | ⟨g', cap', cur, h', hb, hg, hnc, hcm, hcs, htake⟩
  · simp at h'
  simp only [Value.slice.injEq, Option.some.injEq, Addr.mk.injEq, and_true, true_and] at h'
  obtain ⟨rfl, rfl⟩ := h'
  have hst := run_storeCells_at Try.prog ga (N * 4) 29 zeroA 0 cur w hg (by simp [zeroA]; omega) (by simp [zeroA, Value.oneCell'])
  have hz : (Builtin.zeroCells #[.int .i64 0, .string ⟨#[]⟩, .string ⟨#[]⟩, .string ⟨#[]⟩] 1).toList = zeroA := by kernel_rfl
  refine ⟨_, ?_, ⟨hown.1, .inr ⟨ga, cp, _, rfl, hb, setRow_heap w ga cur (cur.toList.take (N * 4 + 0) ++ zeroA ++ cur.toList.drop (N * 4 + 0 + zeroA.length)).toArray 29 _ hg, hnc, hcm, ?_, ?_⟩⟩, ⟨rfl, rfl, rfl, by simp, fun k _ hk => setRow_other w ga k _ (fun e => hk (by simp [e]))⟩⟩
  · simp [Builtin.clear_, run_underlying Try.underlying30, Try.zeroValue29, hz, Value.cells]
    simp at hst
    rw [hst]; simp
  · simp [zeroA, hcs]; omega
  · rw [← htake]
    show List.take (N * 4) (List.take (N * 4 + 0) cur.toList ++ zeroA ++ List.drop (N * 4 + 0 + zeroA.length) cur.toList) = _
    rw [List.append_assoc, List.take_append_of_le_length (by simp; omega), List.take_take]; simp

set_option maxRecDepth 100000 in
set_option maxHeartbeats 2000000 in
theorem delete_last {w : World} {base ga N : Nat} (l : List AttrM) (hN : l.length = N + 1) (hown : w.ownsRow base 29 4 (.slice (some ⟨ga, 0, none⟩) (N + 1) (N + 1)) (N + 1) (attrRow l)) (hfew : N < 1024) :
    Calls Try.prog 100 #[.slice (some ⟨ga, 0, none⟩) (N + 1) (N + 1), .int .i64 N, .int .i64 ((N : Int) + 1)] w fun e w' => e = .returned (.slice (some ⟨ga, 0, none⟩) N (N + 1)) ∧
      w'.ownsRow base 29 4 (.slice (some ⟨ga, 0, none⟩) N (N + 1)) N (attrRow (l.eraseIdx N)) ∧ w.grownBy w' (some ga) := by
  have hpre := ownsRow_prefix hown N (by omega)
  have hnil : l.drop (N + 1) = [] := List.drop_eq_nil_of_le (by omega)
  have herase := attrRow_erase l N
  rw [hnil] at herase
  have HP := hide hpre
  have HEr := hide (show (attrRow l).take (N * 4) ++ [] = attrRow (l.eraseIdx N) from herase)
  clear hown hpre hN hnil herase
  have f1 : ((N : Int) == (N : Int) + 1) = false := beq_eq_false_iff_ne.2 (by omega)
  have b3 : (0 : Int) ≤ (N : Int) + 1 := by omega
  have q1 : (N : Int) ≤ (N : Int) + 1 := by omega
  have q2 : N ≤ N + 1 := by omega
  obtain ⟨i0, hi0, hz0, hz1, hz2⟩ := info_parts Try.info29
  go_enter Try.func100, Try.ntmps100
  go_wp2_with fail
  go_region_law ((refine step_append_fits (by rfl) (.tmp 22) (.tmp 25) 30 (by rfl) base 29 i0 4 Try.underlying30 hi0 hz1 ga N (N + 1) ((attrRow l).take (N * 4)) (by rfl) (by exact (unhide HP)) ⟨ga, 0, none⟩ 0 0 [] (by rfl) (by simp) (by exact (fun r u hr => by simp at hr)) (by simp) (by omega) ?_; intro w4 hown4 hgrow; rw [Nat.add_zero, unhide HEr] at hown4; rw [Nat.add_zero]; have HG4 := hide hgrow; obtain ⟨w5, hclr, ho5, hg5⟩ := clear_one hown4 (by omega) 1; have HO5 := hide ho5; have HG5 := hide hg5; clear hown4 hgrow ho5 hg5))
  go_wp2
  go_ret
  exact ⟨rfl, unhide HO5, grownBy_trans ⟨(unhide HG4).os, (unhide HG4).tape, (unhide HG4).output, (unhide HG4).size, (unhide HG4).block⟩ (unhide HG5)⟩

set_option maxRecDepth 100000 in
set_option maxHeartbeats 2000000 in
theorem delete_any {w : World} {base ga cp N : Nat} (l : List AttrM) (hN : l.length = N + 1) (hown : w.ownsRow base 29 4 (.slice (some ⟨ga, 0, none⟩) (N + 1) cp) (N + 1) (attrRow l)) (j : Nat) (hj : j ≤ N) (hfew : N < 1024) :
    Calls Try.prog 100 #[.slice (some ⟨ga, 0, none⟩) (N + 1) cp, .int .i64 j, .int .i64 ((j : Int) + 1)] w fun e w' => e = .returned (.slice (some ⟨ga, 0, none⟩) N cp) ∧
      w'.ownsRow base 29 4 (.slice (some ⟨ga, 0, none⟩) N cp) N (attrRow (l.eraseIdx j)) ∧ w.grownBy w' (some ga) := by
  have hcap : N + 1 ≤ cp ∧ cp ≤ maxLen := by
    rcases hown.2 with ⟨h', _⟩ | ⟨g', cap', cur, h', hb, hg, hnc, hcm, hcs, htake⟩
    · simp at h'
    · simp only [Value.slice.injEq, Option.some.injEq, Addr.mk.injEq, and_true, true_and] at h'
      obtain ⟨rfl, rfl⟩ := h'
      exact ⟨hnc, hcm⟩
  obtain ⟨hc1, hc2⟩ := hcap
  unfold maxLen at hc2
  by_cases hcj : cp = j + 1
  · obtain rfl : j = N := by omega
    subst hcj
    exact delete_last l hN hown hfew
  have hpre := ownsRow_prefix hown j (by omega)
  have hnl : (attrRow (l.drop (j + 1))).length = (N - j) * 4 := by rw [show (attrRow (l.drop (j + 1))).length = (l.drop (j + 1)).length * 4 from flat_len AttrM.cells 4 attr_len _, List.length_drop, hN]; congr 1; omega
  have hcells : ∀ r u, (attrRow (l.drop (j + 1)))[r]? = some u → w.cell? ⟨ga, (j + 1) * 4 + r, none⟩ = some u := by
    intro r u hr
    have hlt := (List.getElem?_eq_some_iff.1 hr).1
    rw [attrRow_drop, List.getElem?_drop] at hr
    rw [hown.cellAt ((j + 1) * 4 + r) (by omega)]; exact hr
  have HO := hide hown
  have HP := hide hpre
  have HNL := hide hnl
  have HC := hide hcells
  have HEr := hide (attrRow_erase l j)
  have HOne := hide (attrs_oneCell (l.drop (j + 1)))
  clear hown hpre hnl hcells hN
  have f1 : ((j : Int) == (j : Int) + 1) = false := beq_eq_false_iff_ne.2 (by omega)
  have b1 : j ≤ cp := by omega
  have b2 : j ≤ N := hj
  have b3 : (0 : Int) ≤ (j : Int) + 1 := by omega
  have hjN : j + (N - j) = N := by omega
  have HJN := hide hjN
  clear hjN
  obtain ⟨i0, hi0, hz0, hz1, hz2⟩ := info_parts Try.info29
  go_enter Try.func100, Try.ntmps100
  go_wp2_with fail
  have hsrc : ∀ r u, (attrRow (l.drop (j + 1)))[r]? = some u → w.drew.cell? ((⟨ga, (j + 1) * 4, none⟩ : Addr).add r) = some u := by
    intro r u hr
    have hadd : (⟨ga, (j + 1) * 4, none⟩ : Addr).add r = ⟨ga, (j + 1) * 4 + r, none⟩ := by unfold Addr.add; split <;> simp_all
    rw [hadd]; exact (unhide HC) r u hr
  have HS := hide hsrc
  clear hsrc
  have b6 : ¬ cp = N := by omega
  have b7 : N ≤ cp := by omega
  have b5 : ¬ cp = j + 1 := hcj
  go_region_law ((refine step_append_fits (by rfl) (.tmp 22) (.tmp 25) 30 (by rfl) base 29 i0 4 Try.underlying30 hi0 hz1 ga j cp ((attrRow l).take (j * 4)) (by rfl) (by exact (unhide HP)) ⟨ga, (j + 1) * 4, none⟩ (N - j) _ (attrRow (l.drop (j + 1))) (by rfl) (by exact (unhide HNL)) (by exact (unhide HS)) (by exact (unhide HOne)) (by omega) ?_; intro w4 hown4 hgrow; rw [unhide HJN, unhide HEr] at hown4; rw [unhide HJN]; have HO4 := hide hown4; have HG4 := hide hgrow; obtain ⟨w5, hclr, ho5, hg5⟩ := clear_one hown4 (by omega) (cp - N); have HO5 := hide ho5; have HG5 := hide hg5; clear hown4 hgrow ho5 hg5))
  go_wp2
  go_ret
  exact ⟨rfl, unhide HO5, grownBy_trans ⟨(unhide HG4).os, (unhide HG4).tape, (unhide HG4).output, (unhide HG4).size, (unhide HG4).block⟩ (unhide HG5)⟩
end Go.Proofs.Ytlbkoafeedlfaaa
