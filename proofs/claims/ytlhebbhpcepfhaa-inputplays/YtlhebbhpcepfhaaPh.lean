/-
  join: two parts as one.
-/
import Derived.Test.YtlhebbhpcepfhaaPg
import Derived.Lib.SlBuf
import Derived.Laws.MakeOwn
namespace Go.Proofs.Ytlhebbhpcepfhaa
open Go.RowKit

/-- A block of code points while it is filled. -/
structure Fill (w w' : World) (g n : Nat) (l : List Int) : Prop where
  blk : ∃ cur, w'.heap[g]? = some (.cells cur 21 (0, 0)) ∧ cur.size = n ∧ ∀ (j : Nat) x, l[j]? = some x → cur[j]? = some (Value.int .i32 x)
  below : Below w.heap.size w w'
  new : w.heap.size ≤ g
  len : l.length ≤ n

theorem fill_new (w : World) (n : Nat) : Fill w (w.alloc (.cells (madeCells #[Value.int .i32 0] n) 21)) w.heap.size n [] :=
  ⟨⟨_, heap_alloc_new w _, size_madeCells _ _, fun j x hj => by simp at hj⟩, (Below.refl _ w).alloc (Nat.le_refl _) _, Nat.le_refl _, by simp⟩

theorem Fill.more {w w' : World} {g n : Nat} {l k : List Int} (h : Fill w w' g n l) (hk : l.length + k.length ≤ n) : Fill w (w'.setCells g l.length (runesV k)) g n (l ++ k) := by
  obtain ⟨cur, hb, hs, hc⟩ := h.blk
  obtain ⟨cur', h1, h2⟩ := setCells_block g (runesV k) l.length w' cur 21 hb
  have hin : ∀ j, j < (runesV k).length → (w'.cell? ⟨g, l.length + j, none⟩).isSome = true := by
    intro j hj
    rw [runesV_len] at hj
    rw [cell_of_row w' g _ cur 21 (0, 0) hb, Array.getElem?_eq_getElem (by omega)]
    rfl
  obtain ⟨r1, r2, r3⟩ := setCells_rest g (runesV k) l.length w'
  refine ⟨⟨cur', h1, by rw [h2]; exact hs, fun j x hj => ?_⟩, ?_, h.new, by rw [List.length_append]; exact hk⟩
  · rw [← cell_of_row _ g j cur' 21 (0, 0) h1]
    by_cases hjl : j < l.length
    · rw [World.cell?_setCells_out g _ _ _ _ (fun _ _ => .inl hjl), cell_of_row w' g j cur 21 (0, 0) hb]
      rw [List.getElem?_append_left hjl] at hj
      exact hc j x hj
    · rw [List.getElem?_append_right (by omega)] at hj
      have hlt := (List.getElem?_eq_some_iff.1 hj).1
      have := World.cell?_setCells_in g (runesV k) l.length w' hin (j - l.length) (by rw [runesV_len]; exact hlt)
      rw [show l.length + (j - l.length) = j by omega] at this
      rw [this]
      have h9 := runesV_at hj
      rw [List.getElem?_eq_getElem (by rw [runesV_len]; exact hlt)] at h9
      exact h9
  · exact h.below.trans ⟨r1, r2, r3, by rw [setCells_size]; exact Nat.le_refl _, fun i hi => setCells_other g i (by have := h.new; omega) _ _ _⟩

theorem Fill.copy {w w' : World} {g n : Nat} {l k : List Int} (h : Fill w w' g n l) (hk : l.length + k.length ≤ n) (hpos : 0 < k.length) {a : Option Addr} (hr : RunesIn w' a k) (c ty : Nat) (d : Nat) (hd : k.length ≤ d) :
    (Builtin.copy_ #[28, 28] ty #[.slice (some ⟨g, l.length, none⟩) d d, .slice a k.length c]).run Try.prog w' = .ok (goInt k.length) (w'.setCells g l.length (runesV k)) := by
  obtain ⟨cur, hb, hs, hc⟩ := h.blk
  obtain ⟨b, off, rfl, _⟩ := hr 0 _ (List.getElem?_eq_getElem hpos)
  have := run_copy_cells (P := Try.prog) w' 28 28 ty 21 g l.length d d ⟨b, off, none⟩ k.length c (runesV k) (by kernel_rfl) (by kernel_rfl) (by rw [runesV_len]; exact (Nat.min_eq_left hd).symm)
    (fun j v hj => by
      unfold runesV at hj
      rw [List.getElem?_map] at hj
      cases hk2 : k[j]? with
      | none => rw [hk2] at hj; cases hj
      | some x =>
        rw [hk2] at hj
        cases hj
        obtain ⟨b', off', ha, hcc⟩ := hr j x hk2
        cases ha
        rw [add_at]
        exact hcc)
    (fun j hj => by
      rw [runesV_len] at hj
      rw [cell_of_row w' g _ cur 21 (0, 0) hb, Array.getElem?_eq_getElem (by omega)]
      rfl)
    (fun j _ => by simp [World.frozen?, hb]) (runes_one k)
  rw [runesV_len] at this
  exact this

theorem Fill.part {w w' : World} {g n base : Nat} {l : List Int} (h : Fill w w' g n l) (hn : l.length = n) (hm : n ≤ maxLen) (hb : base ≤ w.heap.size) : PartAt w' base ⟨some ⟨g, 0, none⟩, n, l⟩ := by
  obtain ⟨cur, hbk, hs, hc⟩ := h.blk
  refine ⟨by simp only; omega, hm, .inr ⟨g, 0, cur, rfl, Nat.le_trans hb h.new, hbk, by simp only; omega, fun j x hj => ?_⟩⟩
  rw [Nat.zero_add]
  exact hc j x hj

set_option maxHeartbeats 1000000 in
theorem join_any {w : World} {base : Nat} {p q : PartM} (hp : PartAt w base p) (hq : PartAt w base q) (hb : base ≤ w.heap.size) (hm : p.xs.length + q.xs.length ≤ 1048576) :
    Calls Try.prog 40 #[p.val, q.val] w fun e w' => ∃ r, e = .returned r.val ∧ PartAt w' base r ∧ r.xs = p.xs ++ q.xs ∧ Below w.heap.size w w' ∧ ∀ k, r.own = some k → q.own = some k ∨ w.heap.size ≤ k := by
  by_cases h0 : p.xs = []
  · have HQ := hide hq
    obtain ⟨pa, pc, xs⟩ := p
    simp only at h0
    subst h0
    unfold PartM.val
    simp only [List.nil_append, List.length_nil]
    clear hp hq hm
    go_enter Try.func40, Try.ntmps40
    go_wp2
    go_ret
    exact ⟨q, rfl, unhide HQ, rfl, Below.refl _ _, fun k hk => .inl hk⟩
  · have hpos : 0 < p.xs.length := List.length_pos_iff.2 h0
    obtain ⟨i0, hi0, hz0, hz1, hz2⟩ := info_parts Try.info21
    have hmk : ∀ w, (Instr.makeSlice 28 (.int .i64 ((p.xs.length : Int) + (q.xs.length : Int))) (.int .i64 ((p.xs.length : Int) + (q.xs.length : Int)))).run Try.prog w = .ok (.slice (some ⟨w.heap.size, 0, none⟩) (p.xs.length + q.xs.length) (p.xs.length + q.xs.length)) (w.alloc (.cells (madeCells #[Value.int .i32 0] (p.xs.length + q.xs.length)) 21)) := fun w => by
      have := run_makeSlice (P := Try.prog) w 28 21 i0 (.int .i32 0) (by kernel_rfl) hi0 hz0 .i64 .i64 ((p.xs.length : Int) + (q.xs.length : Int)) ((p.xs.length : Int) + (q.xs.length : Int)) (by omega) (by omega) (by rw [hz1]; omega) (by rw [hz2]; omega) (by omega)
      rw [hz1, Nat.mul_one, show ((p.xs.length : Int) + (q.xs.length : Int)).toNat = p.xs.length + q.xs.length by omega] at this
      exact this
    have f1 := fill_new w (p.xs.length + q.xs.length)
    have c1 := fun ty => f1.copy (k := p.xs) (by simp) hpos (hp.runes.below f1.below) p.cap ty (p.xs.length + q.xs.length) (by omega)
    have f2 := f1.more (k := p.xs) (by simp)
    simp only [List.length_nil, List.nil_append] at c1 f2
    have HP : Hid (∀ W g, Fill w W g (p.xs.length + q.xs.length) (p.xs ++ q.xs) → g = w.heap.size → ∃ r, (Value.slice (some ⟨g, 0, none⟩) (p.xs.length + q.xs.length) (p.xs.length + q.xs.length)) = r.val ∧ PartAt W base r ∧ r.xs = p.xs ++ q.xs ∧ Below w.heap.size w W ∧ ∀ k, r.own = some k → q.own = some k ∨ w.heap.size ≤ k) := hide (by
      intro W g hf hg
      refine ⟨⟨some ⟨g, 0, none⟩, p.xs.length + q.xs.length, p.xs ++ q.xs⟩, by unfold PartM.val; simp, hf.part (by simp) (by unfold maxLen; omega) hb, rfl, hf.below, fun k hk => ?_⟩
      unfold PartM.own at hk
      rw [if_neg (by simp only; omega)] at hk
      cases hk
      exact .inr hf.new)
    have hs1 : (p.xs.length : Int) + (q.xs.length : Int) ≤ 1048576 := by omega
    have hne : ((p.xs.length : Int) == 0) = false := by simp; omega
    obtain ⟨pa, pc, xs⟩ := p
    obtain ⟨qa, qc, ys⟩ := q
    simp only at hpos hmk f1 c1 f2 hs1 hne HP h0
    have hqr := hq.runes
    simp only at hqr
    clear hp hq hi0 hz0 hz1 hz2 hm h0
    have F2 := hide f2
    by_cases hq0 : ys.length = 0
    · obtain rfl : ys = [] := List.eq_nil_of_length_eq_zero hq0
      have c2 : ∀ W ty d, (Builtin.copy_ #[28, 28] ty #[.slice d 0 0, .slice qa 0 qc]).run Try.prog W = .ok (goInt 0) W := fun W ty d => run_copy_none (P := Try.prog) W 28 28 ty 21 d qa 0 0 0 qc (by kernel_rfl) (by kernel_rfl) (by simp)
      have hcast : ((xs.length : Int)).toNat = xs.length := by omega
      clear f1 f2 hqr hq0
      simp only [List.length_nil, Nat.add_zero, List.append_nil, Int.natCast_zero, Int.add_zero] at *
      unfold PartM.val
      simp only [List.length_nil]
      go_enter Try.func40, Try.ntmps40
      go_wp2
      go_ret
      obtain ⟨r, e, hr⟩ := (unhide HP) _ _ (unhide F2) rfl
      exact ⟨r, congrArg Ending.returned e, hr⟩
    · have c2 := fun ty => f2.copy (k := ys) (by omega) (by omega) (hqr.below f2.below) qc ty ys.length (Nat.le_refl _)
      have F3 := hide (f2.more (k := ys) (by omega))
      have hn1 : ¬ xs.length + ys.length - xs.length = 0 := by omega
      have hn2 : xs.length + ys.length - xs.length = ys.length := by omega
      have hcast : ((xs.length : Int)).toNat = xs.length := by omega
      clear f1 f2 hqr
      unfold PartM.val
      simp only
      go_enter Try.func40, Try.ntmps40
      go_wp2
      go_ret
      obtain ⟨r, e, hr⟩ := (unhide HP) _ _ (unhide F3) rfl
      exact ⟨r, congrArg Ending.returned e, hr⟩
end Go.Proofs.Ytlhebbhpcepfhaa
