/-
  slices.Delete of one attribute; DelAttr.
-/
import Derived.Test.YtlbkoafeedlfaaaCSg
namespace Go.Proofs.Ytlbkoafeedlfaaa
open Go.RowKit

theorem attrRow_drop (l : List AttrM) (k : Nat) : attrRow (l.drop k) = (attrRow l).drop (k * 4) := by
  induction l generalizing k with
  | nil => simp [attrRow]
  | cons x l ih =>
    cases k with
    | zero => simp
    | succ k =>
      have := ih k
      simp only [attrRow, List.drop_succ_cons, List.flatMap_cons] at this ⊢
      have d0 : List.drop ((k + 1) * 4) x.cells = [] := List.drop_eq_nil_of_le (by rw [attr_len]; omega)
      have e : (k + 1) * 4 - 4 = k * 4 := by omega
      rw [this, List.drop_append, d0, attr_len, e]; simp
theorem attrRow_take (l : List AttrM) (k : Nat) : attrRow (l.take k) = (attrRow l).take (k * 4) := by
  induction l generalizing k with
  | nil => simp [attrRow]
  | cons x l ih =>
    cases k with
    | zero => simp [attrRow]
    | succ k =>
      have := ih k
      simp only [attrRow, List.take_succ_cons, List.flatMap_cons] at this ⊢
      have d0 : List.take ((k + 1) * 4) x.cells = x.cells := List.take_of_length_le (by rw [attr_len]; omega)
      have e : (k + 1) * 4 - 4 = k * 4 := by omega
      rw [this, List.take_append, d0, attr_len, e]

theorem attrRow_erase (l : List AttrM) (j : Nat) : (attrRow l).take (j * 4) ++ attrRow (l.drop (j + 1)) = attrRow (l.eraseIdx j) := by
  rw [← attrRow_take, List.eraseIdx_eq_take_drop_succ]; simp [attrRow]

theorem grownBy_trans {a b c : World} {row : Option Nat} (h1 : a.grownBy b row) (h2 : b.grownBy c row) : a.grownBy c row :=
  ⟨h2.os.trans h1.os, h2.tape.trans h1.tape, h2.output.trans h1.output, Nat.le_trans h1.size h2.size, fun k hk hne => (h2.block k (Nat.lt_of_lt_of_le hk h1.size) hne).trans (h1.block k hk hne)⟩

def zeroA : List Value := [.int .i64 0, .string ⟨#[]⟩, .string ⟨#[]⟩, .string ⟨#[]⟩]

theorem clear_one {w : World} {base ga oa N cp : Nat} {xs : List Value} (hown : Seg w base (.slice (some ⟨ga, oa, none⟩) N cp) N xs) (hroom : N + 1 ≤ cp) (c : Nat) :
    ∃ w', (Builtin.clear_ #[30] 0 #[.slice (some ⟨ga, oa + N * 4, none⟩) 1 c]).run Try.prog w = .ok (.tuple #[]) w' ∧ Seg w' base (.slice (some ⟨ga, oa, none⟩) N cp) N xs ∧ w.grownBy w' (some ga) ∧ Out (.slice (some ⟨ga, oa, none⟩) N cp) w w' := by
  obtain ⟨cur, hg, hb, hn, hmx, hs, hc⟩ := hown.room
  have hz : (Builtin.zeroCells #[.int .i64 0, .string ⟨#[]⟩, .string ⟨#[]⟩, .string ⟨#[]⟩] 1).toList = zeroA := by kernel_rfl
  have hzl : zeroA.length = 4 := rfl
  have hst := run_storeCells_cells (P := Try.prog) ga (oa + N * 4) zeroA 0 w (by intro j hj; rw [cell_of_row w ga _ cur 29 (0, 0) hg, Array.getElem?_eq_getElem (by omega)]; rfl) (by intro j _; exact hown.frozenAt _) (by simp [zeroA, Value.oneCell'])
  obtain ⟨h1, h2, h3⟩ := hown.wrote (news := zeroA) (Nat.le_refl N) 1 rfl hroom
  have h4 := h1.prefix N (by omega)
  have hx := hown.1
  rw [List.take_of_length_le (l := xs) (by omega), List.take_append_of_le_length (by omega), List.take_of_length_le (by omega)] at h4
  refine ⟨_, ?_, h4, h2, h3⟩
  simp [Builtin.clear_, run_underlying Try.underlying30, Try.zeroValue29, hz, Value.cells]
  simp at hst
  rw [hst]; simp

theorem out_room {a : Option Addr} {n m c : Nat} {w w' : World} (h : Out (.slice a n c) w w') : Out (.slice a m c) w w' := by
  intro g off k cp cur e hg
  cases e
  exact h g off n c cur rfl hg

set_option maxRecDepth 100000 in
set_option maxHeartbeats 2000000 in
theorem delete_last {w : World} {base ga oa N : Nat} (l : List AttrM) (hN : l.length = N + 1) (hown : Seg w base (.slice (some ⟨ga, oa, none⟩) (N + 1) (N + 1)) (N + 1) (attrRow l)) (hfew : N < 1024) :
    Calls Try.prog 100 #[.slice (some ⟨ga, oa, none⟩) (N + 1) (N + 1), .int .i64 N, .int .i64 ((N : Int) + 1)] w fun e w' => e = .returned (.slice (some ⟨ga, oa, none⟩) N (N + 1)) ∧
      Seg w' base (.slice (some ⟨ga, oa, none⟩) N (N + 1)) N (attrRow (l.eraseIdx N)) ∧ w.grownBy w' (some ga) ∧ Out (.slice (some ⟨ga, oa, none⟩) (N + 1) (N + 1)) w w' := by
  have hpre := hown.prefix N (by omega)
  have hnil : l.drop (N + 1) = [] := List.drop_eq_nil_of_le (by omega)
  have herase := attrRow_erase l N
  rw [hnil] at herase
  have HP := hide hpre
  have HEr := hide (show (attrRow l).take (N * 4) ++ [] = attrRow (l.eraseIdx N) from herase)
  clear hown hpre hN hnil herase
  have f1 : ((N : Int) == (N : Int) + 1) = false := beq_eq_false_iff_ne.2 (by omega)
  have b3 : (0 : Int) ≤ (N : Int) + 1 := by omega
  have q1 : (N : Int) ≤ (N : Int) + 1 := by omega
  have q2 : N ≤ N + 1 := by omega
  obtain ⟨i0, hi0, hz0, hz1, hz2⟩ := info_parts Try.info29
  go_enter Try.func100, Try.ntmps100
  go_wp2_with fail
  go_region_law ((refine step_seg_fits (by rfl) (.tmp 22) (.tmp 25) (by rfl) base ga oa N (N + 1) ((attrRow l).take (N * 4)) (by rfl) (by exact (unhide HP)) ⟨ga, oa, none⟩ 0 0 [] (by rfl) (by simp) (by exact (fun r u hr => by simp at hr)) (by simp) (by omega) ?_; intro w4 hown4 hgrow hout; have HU4 := hide hout; clear hout; rw [Nat.add_zero, unhide HEr] at hown4; rw [Nat.add_zero]; have HG4 := hide hgrow; obtain ⟨w5, hclr, ho5, hg5, hu5⟩ := clear_one hown4 (by omega) 1; have HO5 := hide ho5; have HG5 := hide hg5; have HU5 := hide hu5; clear hown4 hgrow ho5 hg5 hu5))
  go_wp2
  go_ret
  exact ⟨rfl, unhide HO5, grownBy_trans ⟨(unhide HG4).os, (unhide HG4).tape, (unhide HG4).output, (unhide HG4).size, (unhide HG4).block⟩ (unhide HG5), Out.trans (b := w4) (out_room (unhide HU4)) (out_room (unhide HU5))⟩

set_option maxRecDepth 100000 in
set_option maxHeartbeats 2000000 in
theorem delete_any {w : World} {base ga oa cp N : Nat} (l : List AttrM) (hN : l.length = N + 1) (hown : Seg w base (.slice (some ⟨ga, oa, none⟩) (N + 1) cp) (N + 1) (attrRow l)) (j : Nat) (hj : j ≤ N) (hfew : N < 1024) :
    Calls Try.prog 100 #[.slice (some ⟨ga, oa, none⟩) (N + 1) cp, .int .i64 j, .int .i64 ((j : Int) + 1)] w fun e w' => e = .returned (.slice (some ⟨ga, oa, none⟩) N cp) ∧
      Seg w' base (.slice (some ⟨ga, oa, none⟩) N cp) N (attrRow (l.eraseIdx j)) ∧ w.grownBy w' (some ga) ∧ Out (.slice (some ⟨ga, oa, none⟩) (N + 1) cp) w w' := by
  have hcap : N + 1 ≤ cp ∧ cp ≤ maxLen := by
    obtain ⟨cur, hg, hb, hnc, hcm, _⟩ := hown.room
    exact ⟨hnc, hcm⟩
  obtain ⟨hc1, hc2⟩ := hcap
  unfold maxLen at hc2
  by_cases hcj : cp = j + 1
  · obtain rfl : j = N := by omega
    subst hcj
    exact delete_last l hN hown hfew
  have hpre := hown.prefix j (by omega)
  have hnl : (attrRow (l.drop (j + 1))).length = (N - j) * 4 := by rw [show (attrRow (l.drop (j + 1))).length = (l.drop (j + 1)).length * 4 from flat_len AttrM.cells 4 attr_len _, List.length_drop, hN]; congr 1; omega
  have hcells : ∀ r u, (attrRow (l.drop (j + 1)))[r]? = some u → w.cell? ⟨ga, oa + (j + 1) * 4 + r, none⟩ = some u := by
    intro r u hr
    have hlt := (List.getElem?_eq_some_iff.1 hr).1
    rw [attrRow_drop, List.getElem?_drop] at hr
    rw [Nat.add_assoc, hown.cellAt ((j + 1) * 4 + r) (by omega)]; exact hr
  have HO := hide hown
  have HP := hide hpre
  have HNL := hide hnl
  have HC := hide hcells
  have HEr := hide (attrRow_erase l j)
  have HOne := hide (attrs_oneCell (l.drop (j + 1)))
  clear hown hpre hnl hcells hN
  have f1 : ((j : Int) == (j : Int) + 1) = false := beq_eq_false_iff_ne.2 (by omega)
  have b1 : j ≤ cp := by omega
  have b2 : j ≤ N := hj
  have b3 : (0 : Int) ≤ (j : Int) + 1 := by omega
  have hjN : j + (N - j) = N := by omega
  have HJN := hide hjN
  clear hjN
  obtain ⟨i0, hi0, hz0, hz1, hz2⟩ := info_parts Try.info29
  go_enter Try.func100, Try.ntmps100
  go_wp2_with fail
  have hsrc : ∀ r u, (attrRow (l.drop (j + 1)))[r]? = some u → w.drew.cell? ((⟨ga, oa + (j + 1) * 4, none⟩ : Addr).add r) = some u := by
    intro r u hr
    have hadd : (⟨ga, oa + (j + 1) * 4, none⟩ : Addr).add r = ⟨ga, oa + (j + 1) * 4 + r, none⟩ := by unfold Addr.add; split <;> simp_all
    rw [hadd]; exact (unhide HC) r u hr
  have HS := hide hsrc
  clear hsrc
  have b6 : ¬ cp = N := by omega
  have b7 : N ≤ cp := by omega
  have b5 : ¬ cp = j + 1 := hcj
  go_region_law ((refine step_seg_fits (by rfl) (.tmp 22) (.tmp 25) (by rfl) base ga oa j cp ((attrRow l).take (j * 4)) (by rfl) (by exact (unhide HP)) ⟨ga, oa + (j + 1) * 4, none⟩ (N - j) _ (attrRow (l.drop (j + 1))) (by rfl) (by exact (unhide HNL)) (by exact (unhide HS)) (by exact (unhide HOne)) (by omega) ?_; intro w4 hown4 hgrow hout; have HU4 := hide hout; clear hout; rw [unhide HJN, unhide HEr] at hown4; rw [unhide HJN]; have HO4 := hide hown4; have HG4 := hide hgrow; obtain ⟨w5, hclr, ho5, hg5, hu5⟩ := clear_one hown4 (by omega) (cp - N); have HO5 := hide ho5; have HG5 := hide hg5; have HU5 := hide hu5; clear hown4 hgrow ho5 hg5 hu5))
  go_wp2
  go_ret
  exact ⟨rfl, unhide HO5, grownBy_trans ⟨(unhide HG4).os, (unhide HG4).tape, (unhide HG4).output, (unhide HG4).size, (unhide HG4).block⟩ (unhide HG5), Out.trans (b := w4) (out_room (unhide HU4)) (out_room (unhide HU5))⟩
end Go.Proofs.Ytlbkoafeedlfaaa
