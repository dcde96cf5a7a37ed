/-
  separateAttrs, plain: each node's attributes in a part of one new block. separateAttrs, walked. Copy.
-/
import Derived.Test.YtlbkoafeedlfaaaSBao
import Derived.Deep.LoopGhost
import Derived.Deep.RegionHeld3
namespace Go.Proofs.Ytlbkoafeedlfaaa
open Go.RowKit

def totA (ns : List NodeM) : Nat := (ns.map fun n => n.attrs.length).sum
theorem totA_drop {ns : List NodeM} {i : Nat} {n : NodeM} (h : ns[i]? = some n) : totA (ns.drop i) = n.attrs.length + totA (ns.drop (i + 1)) := by
  have hlt := (List.getElem?_eq_some_iff.1 h).1
  have he := (List.getElem?_eq_some_iff.1 h).2
  rw [List.drop_eq_getElem_cons hlt, he]; simp [totA]
theorem totA_take {ns : List NodeM} {i : Nat} {n : NodeM} (h : ns[i]? = some n) : totA (ns.take (i + 1)) = totA (ns.take i) + n.attrs.length := by
  have hlt := (List.getElem?_eq_some_iff.1 h).1
  have he := (List.getElem?_eq_some_iff.1 h).2
  rw [List.take_succ_eq_append_getElem hlt, he]; simp [totA]
theorem totA_le (ns : List NodeM) (h : ∀ (i : Nat) n, ns[i]? = some n → n.attrs.length ≤ 1024) : totA ns ≤ ns.length * 1024 := by
  induction ns with
  | nil => simp [totA]
  | cons x l ih =>
    have h0 := h 0 x rfl
    have := ih (fun i n hi => h (i + 1) n (by simpa using hi))
    simp [totA] at this ⊢
    omega

theorem row12 {w : World} {base g cap : Nat} {ns : List NodeM} (h : w.ownsRow base 37 12 (.slice (some ⟨g, 0, none⟩) ns.length cap) ns.length (nodeRow ns)) {i : Nat} {n : NodeM} (hi : ns[i]? = some n) :
    w.cell? ⟨g, i * 12, none⟩ = some (.int .i64 n.kind) ∧ w.cell? ⟨g, i * 12 + 1, none⟩ = some (.int .i64 n.space) ∧ w.cell? ⟨g, i * 12 + 2, none⟩ = some (.string n.name) ∧
    w.cell? ⟨g, i * 12 + 3, none⟩ = some n.av ∧ w.cell? ⟨g, i * 12 + 4, none⟩ = some (.string n.data) ∧ w.cell? ⟨g, i * 12 + 5, none⟩ = some (.string n.system) ∧
    w.cell? ⟨g, i * 12 + 6, none⟩ = some (.int .i64 n.parent) ∧ w.cell? ⟨g, i * 12 + 7, none⟩ = some (.int .i64 n.first) ∧ w.cell? ⟨g, i * 12 + 8, none⟩ = some (.int .i64 n.last) ∧
    w.cell? ⟨g, i * 12 + 9, none⟩ = some (.int .i64 n.prev) ∧ w.cell? ⟨g, i * 12 + 10, none⟩ = some (.int .i64 n.next) ∧ w.cell? ⟨g, i * 12 + 11, none⟩ = some (.int .i64 n.inner) := by
  have hlt : i < ns.length := (List.getElem?_eq_some_iff.1 hi).1
  have hc : ∀ j, j < 12 → w.cell? ⟨g, i * 12 + j, none⟩ = n.cells[j]? := fun j hj => by
    rw [h.cellAt (i * 12 + j) (by omega), nodeRow, flat_get NodeM.cells 12 node_len ns i j hj, hi]; rfl
  exact ⟨hc 0 (by omega), hc 1 (by omega), hc 2 (by omega), hc 3 (by omega), hc 4 (by omega), hc 5 (by omega), hc 6 (by omega), hc 7 (by omega), hc 8 (by omega), hc 9 (by omega), hc 10 (by omega), hc 11 (by omega)⟩

/-- copy into the room that is left. -/
theorem run_seg_copy {W : World} {B g o r : Nat} {a : Option Addr} {c : Nat} {l : List AttrM} (h : Seg W B (.slice (some ⟨g, o, none⟩) 0 r) 0 []) (hl : AttrsIn W a l) (hn : l.length ≤ r) (ty : TypeId) :
    (Builtin.copy_ #[30, 30] ty #[.slice (some ⟨g, o, none⟩) r r, .slice a l.length c]).run Try.prog W = .ok (goInt l.length) (W.setCells g o (attrRow l)) := by
  obtain ⟨i0, hi0, hz0, hz1, hz2⟩ := info_parts Try.info29
  obtain ⟨cur, hg, hb, _, hmx, hs, hc⟩ := h.room
  have hlen : (attrRow l).length = l.length * 4 := flat_len AttrM.cells 4 attr_len l
  have hmin : Nat.min l.length r = l.length := Nat.min_eq_left hn
  have hst := run_storeCells_cells (P := Try.prog) g o (attrRow l) 0 W (by intro j hj; rw [cell_of_row W g _ cur 29 (0, 0) hg, Array.getElem?_eq_getElem (by omega)]; rfl) (by intro j _; exact h.frozenAt _) (attrs_oneCell l)
  simp only [Nat.add_zero] at hst
  by_cases h0 : l.length = 0
  · obtain rfl : l = [] := List.eq_nil_of_length_eq_zero h0
    have hl0 : ∀ (x : Addr), (loadCells x 0).run Try.prog W = .ok #[] W := fun x => by simpa using run_loadCells_list (P := Try.prog) W x [] (by simp)
    cases a <;> simp [Builtin.copy_, run_underlying Try.underlying30, Builtin.lenOf, Builtin.firstCells, sizeOf, typeInfo, hi0, storeCells, hl0, attrRow, World.setCells]
  · obtain ⟨b, off, rfl⟩ := Addr.of_lt hl (by omega)
    have hf := run_firstCells_some (P := Try.prog) W 4 l.length ⟨b, off, none⟩ l.length c (attrRow l) hlen hl.row
    simp [Builtin.copy_, run_underlying Try.underlying30, Builtin.lenOf, sizeOf, typeInfo, hi0, hz1, hmin, hf, hst]

structure SepS (w0 W : World) (base gN gA cap : Nat) (ns pre : List NodeM) (o r : Nat) : Prop where
  len : pre.length ≤ ns.length
  row : W.ownsRow base 37 12 (.slice (some ⟨gN, 0, none⟩) ns.length cap) ns.length (nodeRow (pre ++ ns.drop pre.length))
  same : ∀ (j : Nat) n', pre[j]? = some n' → ∃ n, ns[j]? = some n ∧ n' = { n with av := n'.av }
  segs : ∀ (j : Nat) n', pre[j]? = some n' → Seg W w0.heap.size n'.av n'.attrs.length (attrRow n'.attrs)
  all : Seg W w0.heap.size (.slice (some ⟨gA, o, none⟩) 0 r) 0 []
  left : r = totA (ns.drop pre.length)
  away : ∀ (j : Nat) n', pre[j]? = some n' → Away (.slice (some ⟨gA, o, none⟩) 0 r) n'.av
  apart : ∀ (i j : Nat) n m, i ≠ j → pre[i]? = some n → pre[j]? = some m → Away n.av m.av
  mod : Mod (fun k => k = gN) w0 W

theorem Seg.cut {W : World} {B g o n c : Nat} {xs : List Value} (h : Seg W B (.slice (some ⟨g, o, none⟩) n c) n xs) (c' : Nat) (h1 : n ≤ c') (h2 : c' ≤ c) : Seg W B (.slice (some ⟨g, o, none⟩) n c') n xs := by
  obtain ⟨cur, hg, hb, hn, hm, hs, hc⟩ := h.room
  exact ⟨h.1, .inr ⟨g, o, c', cur, rfl, hb, hg, h1, by omega, by omega, hc⟩⟩
theorem Seg.rest {W : World} {B g o n c : Nat} {xs : List Value} (h : Seg W B (.slice (some ⟨g, o, none⟩) n c) n xs) (o' c' : Nat) (h2 : c' ≤ c) (h3 : o' + c' * 4 ≤ o + c * 4) : Seg W B (.slice (some ⟨g, o', none⟩) 0 c') 0 [] := by
  obtain ⟨cur, hg, hb, hn, hm, hs, hc⟩ := h.room
  exact ⟨rfl, .inr ⟨g, o', c', cur, rfl, hb, hg, Nat.zero_le _, by omega, by omega, fun j hj => by omega⟩⟩

theorem SepS.step {w0 W : World} {base gN gA cap : Nat} {ns pre : List NodeM} {o r : Nat} (h : SepS w0 W base gN gA cap ns pre o r) (hgN : gN < w0.heap.size) {n : NodeM} (hn : ns[pre.length]? = some n) :
    n.attrs.length ≤ r ∧ SepS w0 ((W.setCells gA o (attrRow n.attrs)).setCell ⟨gN, pre.length * 12 + 3, none⟩ (.slice (some ⟨gA, o, none⟩) n.attrs.length n.attrs.length)) base gN gA cap ns
      (pre ++ [{ n with av := .slice (some ⟨gA, o, none⟩) n.attrs.length n.attrs.length }]) (if r = n.attrs.length then o else o + n.attrs.length * 4) (r - n.attrs.length) := by
  have hlt := (List.getElem?_eq_some_iff.1 hn).1
  have hleft := h.left
  rw [totA_drop hn] at hleft
  have hle : n.attrs.length ≤ r := by omega
  refine ⟨hle, ?_⟩
  generalize hm : n.attrs.length = m at *
  have hlen : (attrRow n.attrs).length = m * 4 := by rw [← hm]; exact flat_len AttrM.cells 4 attr_len _
  obtain ⟨w1, w2, w3⟩ := h.all.wrote (news := attrRow n.attrs) (Nat.le_refl 0) m hlen (by omega)
  simp only [Nat.zero_mul, Nat.add_zero, Nat.zero_add, List.take_nil, List.nil_append] at w1 w2 w3
  have hgA := (h.all.lt gA rfl)
  have hne : gA ≠ gN := by omega
  generalize hW1 : W.setCells gA o (attrRow n.attrs) = W1 at *
  have hother : ∀ k, k ≠ gN → (W1.setCell ⟨gN, pre.length * 12 + 3, none⟩ (.slice (some ⟨gA, o, none⟩) m m)).heap[k]? = W1.heap[k]? := fun k hk => Below.heap_setCell _ _ _ _ hk
  have hrow1 : W1.ownsRow base 37 12 (.slice (some ⟨gN, 0, none⟩) ns.length cap) ns.length (nodeRow (pre ++ ns.drop pre.length)) := ownsRow_kept h.row (fun k hk => by
    simp [Value.ownBlock] at hk; subst hk
    exact w2.block gN (h.row.lt gN rfl).2 (by simp; omega))
  have hseg1 : ∀ (j : Nat) n', pre[j]? = some n' → Seg W1 w0.heap.size n'.av n'.attrs.length (attrRow n'.attrs) := fun j n' hj =>
    (h.segs j n' hj).away h.all (h.away j n' hj) w3 (fun k hk hne => w2.block k ((h.segs j n' hj).lt k hk).2 (fun e => hne (show some gA = some k from e.symm)))
  have far : ∀ {v : Value} {k : Nat} {xs : List Value}, Seg W1 w0.heap.size v k xs → Seg (W1.setCell ⟨gN, pre.length * 12 + 3, none⟩ (.slice (some ⟨gA, o, none⟩) m m)) w0.heap.size v k xs := fun hs => hs.other (fun e => by have := (hs.lt gN e).1; omega) _
  have hcase : ∀ (j : Nat) x, (pre ++ [{ n with av := Value.slice (some ⟨gA, o, none⟩) m m }])[j]? = some x → (j < pre.length ∧ pre[j]? = some x) ∨ (j = pre.length ∧ x = { n with av := Value.slice (some ⟨gA, o, none⟩) m m }) := by
    intro j x hx
    by_cases hj : j < pre.length
    · rw [List.getElem?_append_left hj] at hx; exact .inl ⟨hj, hx⟩
    · rw [List.getElem?_append_right (by omega)] at hx
      have : j - pre.length = 0 := by
        have := (List.getElem?_eq_some_iff.1 hx).1
        simp at this; omega
      rw [this] at hx
      simp at hx
      exact .inr ⟨by omega, hx.symm⟩
  have hnew : ∀ (j : Nat) x, pre[j]? = some x → Away (.slice (some ⟨gA, o, none⟩) m m) x.av := by
    intro j x hx g off k c off' k' c' e1 e2
    cases e1
    have := h.away j x hx gA o 0 r off' k' c' rfl e2
    omega
  refine ⟨by simp; omega, ?_, ?_, ?_, ?_, ?_, ?_, ?_, ?_⟩
  · have hset : nodeRow ((pre ++ [{ n with av := Value.slice (some ⟨gA, o, none⟩) m m }]) ++ ns.drop (pre ++ [{ n with av := Value.slice (some ⟨gA, o, none⟩) m m }]).length) = (nodeRow (pre ++ ns.drop pre.length)).set (pre.length * 12 + 3) (.slice (some ⟨gA, o, none⟩) m m) := by
      have hx : (pre ++ ns.drop pre.length)[pre.length]? = some n := by rw [List.getElem?_append_right (Nat.le_refl _)]; simp [hn]
      rw [nodeRow, nodeRow, flat_set NodeM.cells 12 node_len _ pre.length 3 (by omega) n { n with av := .slice (some ⟨gA, o, none⟩) m m } _ hx (by simp [NodeM.cells])]
      have hd : ns.drop pre.length = n :: ns.drop (pre.length + 1) := by rw [List.drop_eq_getElem_cons hlt, (List.getElem?_eq_some_iff.1 hn).2]
      rw [hd, List.set_append_right _ _ (Nat.le_refl _)]
      simp
    rw [hset]
    exact (hrow1.stored (pre.length * 12 + 3) _).1
  · intro j x hx
    rcases hcase j x hx with ⟨_, hx'⟩ | ⟨rfl, rfl⟩
    · exact h.same j x hx'
    · exact ⟨n, hn, rfl⟩
  · intro j x hx
    rcases hcase j x hx with ⟨_, hx'⟩ | ⟨rfl, rfl⟩
    · exact far (hseg1 j x hx')
    · have := far (w1.cut m (Nat.le_refl _) hle)
      rw [← hm] at this ⊢
      exact this
  · refine far (w1.rest _ _ (by omega) ?_)
    split <;> omega
  · rw [List.length_append]
    show r - m = totA (ns.drop (pre.length + 1))
    omega
  · intro j x hx
    rcases hcase j x hx with ⟨_, hx'⟩ | ⟨rfl, rfl⟩
    · intro g off k c off' k' c' e1 e2
      cases e1
      have := h.away j x hx' gA o 0 r off' k' c' rfl e2
      split <;> omega
    · intro g off k c off' k' c' e1 e2
      cases e1; cases e2
      split <;> omega
  · intro i j x y hij hx hy
    rcases hcase i x hx with ⟨_, hx'⟩ | ⟨ei, rfl⟩ <;> rcases hcase j y hy with ⟨_, hy'⟩ | ⟨ej, rfl⟩
    · exact h.apart i j x y hij hx' hy'
    · exact (hnew i x hx').symm
    · exact hnew j y hy'
    · omega
  · refine Mod.trans ⟨w2.os.trans h.mod.os, w2.tape.trans h.mod.tape, w2.output.trans h.mod.output, Nat.le_trans h.mod.size w2.size, fun k hk hf => ?_⟩ (Mod.setCell _ _ _ rfl)
    rw [w2.block k (Nat.lt_of_lt_of_le hk h.mod.size) (by simp; omega)]
    exact h.mod.block k hk hf
end Go.Proofs.Ytlbkoafeedlfaaa

namespace Go.Proofs.Ytlbkoafeedlfaaa
open Go.RowKit

theorem totA_parts (ns : List NodeM) (j : Nat) : totA (ns.take j) + totA (ns.drop j) = totA ns := by
  have : totA (ns.take j ++ ns.drop j) = totA (ns.take j) + totA (ns.drop j) := by simp only [totA, List.map_append, List.sum_append]
  rw [← this, List.take_append_drop]

theorem attrs_far {w W : World} {gN : Nat} {a : Option Addr} {l : List AttrM} (h : AttrsIn w a l) (hm : Mod (fun k => k = gN) w W) (hf : ∀ b o, a = some ⟨b, o, none⟩ → b < w.heap.size ∧ b ≠ gN) : AttrsIn W a l := ⟨fun i x hi => by
  obtain ⟨b, off, e, c0, c1, c2, c3⟩ := h.cells i x hi
  have hc := fun (j : Nat) => World.cell?_of_block (w := w) (w' := W) (a := ⟨b, j, none⟩) (hm.block b (hf b off e).1 (hf b off e).2)
  exact ⟨b, off, e, (hc _).trans c0, (hc _).trans c1, (hc _).trans c2, (hc _).trans c3⟩⟩

set_option maxRecDepth 100000 in
set_option maxHeartbeats 2000000 in
theorem sep_any {w : World} {base gN cap : Nat} {ns : List NodeM} (hrow : w.ownsRow base 37 12 (.slice (some ⟨gN, 0, none⟩) ns.length cap) ns.length (nodeRow ns)) (hlen : ns.length ≤ 32768)
    (hfew : ∀ (i : Nat) n, ns[i]? = some n → n.attrs.length ≤ 1024)
    (hsrc : ∀ (i : Nat) n, ns[i]? = some n → ∃ a c, n.av = .slice a n.attrs.length c ∧ AttrsIn w a n.attrs ∧ ∀ b o, a = some ⟨b, o, none⟩ → b < w.heap.size ∧ b ≠ gN) :
    Calls Try.prog 58 #[.slice (some ⟨gN, 0, none⟩) ns.length cap] w fun e w' => e = .returned (.tuple #[]) ∧ ∃ ns' gA o, SepS w w' base gN gA cap ns ns' o 0 ∧ ns'.length = ns.length := by
  have hgN := (hrow.lt gN rfl).2
  have HR := hide hrow
  have HF := hide hfew
  have HS := hide hsrc
  have HT := hide (totA_le ns hfew)
  obtain ⟨i0, hi, hz0, hz1, hz2⟩ := info_parts Try.info29
  clear hrow hfew hsrc
  go_enter Try.func58, Try.ntmps58
  go_wp2_with fail
  go_loopg [2, 10] ns.length (fun k s2 s10 wx => ∃ j : Nat, s10 = .int .i64 j ∧ j + k = ns.length ∧ s2 = .int .i64 (totA (ns.take j) : Nat) ∧ Below w.heap.size w wx)
  case atStart => exact ⟨0, rfl, by omega, by simp [totA], Below.refl _ _⟩
  case round =>
    obtain ⟨j, rfl, hjk, rfl, hB⟩ := hrel
    by_cases hj : j < ns.length
    · have hx : ns[j]? = some ns[j] := List.getElem?_eq_getElem hj
      generalize ns[j] = n at hx
      have hjz : (j : Int) < (ns.length : Int) := by omega
      have hrw : wr.ownsRow base 37 12 (.slice (some ⟨gN, 0, none⟩) ns.length cap) ns.length (nodeRow ns) := ownsRow_kept (unhide HR) (fun k hk => by simp [Value.ownBlock] at hk; subst hk; exact hB.block _ hgN)
      obtain ⟨c0, c1, c2, c3, c4, c5, c6, c7, c8, c9, c10, c11⟩ := row12 hrw hx
      obtain ⟨a, c, hav, _⟩ := (unhide HS) j n hx
      rw [hav] at c3
      have hsm : (totA (ns.take j) : Int) + (n.attrs.length : Int) ≤ 33554432 := by
        have h1 := totA_parts ns j
        have h2 := totA_drop hx
        have h3 := unhide HT
        omega
      have HX := hide hx
      have HB := hide hB
      clear hx hB hrw hav
      go_wp2_with fail
      go_roundg (gk - 1)
      case measure => omega
      case rel => exact ⟨j + 1, by go_num, by omega, by rw [totA_take (unhide HX)]; simp, (unhide HB).alloc (unhide HB).size _⟩
    · have hjz : ¬ (j : Int) < (ns.length : Int) := by omega
      obtain rfl : j = ns.length := by omega
      rw [List.take_of_length_le (Nat.le_refl _)]
      have htot : totA ns ≤ 33554432 := by have := unhide HT; omega
      have hbw : w.heap.size ≤ wr.heap.size := hB.size
      have HB := hide hB
      clear hB
      generalize htt : totA ns = t at *
      go_wp2_with (at_make; go_must (refine wpList_make_full _ rfl _ _ 30 rfl w.heap.size 29 i0 _ 4 Try.underlying30 hi hz0 hz1 _ _ _ _ t rfl rfl rfl rfl (by rw [hz2]; omega) (by unfold maxLen; omega) hbw ?_); intro w1 hown1 hgrow1)
      have HI := hide (show SepS w w1 base gN wr.heap.size cap ns [] 0 t from
        ⟨by simp, by
          simp only [List.length_nil, List.drop_zero, List.nil_append]
          exact ownsRow_kept (unhide HR) (fun k hk => by simp [Value.ownBlock] at hk; subst hk; exact (hgrow1.block _ (by omega) (by simp)).trans ((unhide HB).block _ hgN)),
        fun j n' hj => by simp at hj, fun j n' hj => by simp at hj, (Seg.of hown1).rest 0 t (Nat.le_refl _) (Nat.le_refl _), by rw [List.length_nil, List.drop_zero, htt], fun j n' hj => by simp at hj, fun i j n m _ hi => by simp at hi,
        (Mod.of_below (unhide HB)).trans (Mod.grown hgrow1 (fun k hk => by cases hk))⟩)
      clear hown1 hgrow1 hbw HB hjz hjk hj
      generalize wr.heap.size = gA at *
      clear wr
      go_loopg [5, 24] ns.length (fun k s5 s24 wx => ∃ (pre : List NodeM) (o r : Nat), s24 = .int .i64 pre.length ∧ pre.length + k = ns.length ∧ s5 = .slice (some ⟨gA, o, none⟩) r r ∧ SepS w wx base gN gA cap ns pre o r)
      case atStart => exact ⟨[], 0, t, rfl, by simp, rfl, unhide HI⟩
      case round =>
        obtain ⟨pre, o, r, rfl, hjk, rfl, hS⟩ := hrel
        by_cases hj : pre.length < ns.length
        · have hx : ns[pre.length]? = some ns[pre.length] := List.getElem?_eq_getElem hj
          generalize ns[pre.length] = n at hx
          have hjz : (pre.length : Int) < (ns.length : Int) := by omega
          obtain ⟨hle, hst⟩ := hS.step hgN hx
          obtain ⟨a, c, hav, hin, hfar⟩ := (unhide HS) _ n hx
          have hx2 : (pre ++ ns.drop pre.length)[pre.length]? = some n := by rw [List.getElem?_append_right (Nat.le_refl _)]; simp [hx]
          have hlen2 : (pre ++ ns.drop pre.length).length = ns.length := by simp; omega
          have hrow := hS.row
          rw [← hlen2] at hrow
          have c3 := (row12 hrow hx2).2.2.2.1
          have fz := hrow.frozenAt (pre.length * 12 + 3)
          rw [hav] at c3
          have hcp := fun ty => run_seg_copy (c := c) hS.all (attrs_far hin hS.mod hfar) hle ty
          have hne : gN ≠ gA := by have := hS.all.lt gA rfl; omega
          have c3' : (wr.setCells gA o (attrRow n.attrs)).cell? ⟨gN, pre.length * 12 + 3, none⟩ = some (.slice a n.attrs.length c) := (World.cell?_of_block (setCells_other gA gN hne _ _ _)).trans c3
          have fz' : (wr.setCells gA o (attrRow n.attrs)).frozen? ⟨gN, pre.length * 12 + 3, none⟩ = false := (World.frozen?_of_block (setCells_other gA gN hne _ _ _)).trans fz
          have hn1 : n.attrs.length ≤ 1024 := (unhide HF) _ n hx
          have hr1 : r ≤ 33554432 := by have h1 := hS.left; have h2 := totA_parts ns pre.length; omega
          have hlen1 : (pre ++ [{ n with av := Value.slice (some ⟨gA, o, none⟩) n.attrs.length n.attrs.length }]).length = pre.length + 1 := by simp
          have HST := hide hst
          have HL1 := hide hlen1
          clear hS hst hx hx2 hlen2 hrow hav hin hfar hlen1
          generalize hm : n.attrs.length = m at *
          by_cases he : r = m
          · rw [if_pos he] at HST
            subst he
            rw [Nat.sub_self] at HST
            go_wp2_with fail
            go_roundg (gk - 1)
            case measure => omega
            case rel => exact ⟨_, _, _, by rw [unhide HL1]; go_num, by rw [unhide HL1]; omega, by first | rfl | simp, unhide HST⟩
          · rw [if_neg he] at HST
            go_wp2_with fail
            go_roundg (gk - 1)
            case measure => omega
            case rel => exact ⟨_, _, _, by rw [unhide HL1]; go_num, by rw [unhide HL1]; omega, rfl, unhide HST⟩
        · have hjz : ¬ (pre.length : Int) < (ns.length : Int) := by omega
          have hlp : pre.length = ns.length := by have := hS.len; omega
          have hr0 : r = 0 := by have := hS.left; rw [hlp, List.drop_length] at this; simpa [totA] using this
          subst hr0
          have HST := hide hS
          clear hS
          go_wp2_with fail
          go_end0
          exact ⟨rfl, pre, ⟨gA, o, unhide HST⟩, hlp⟩
end Go.Proofs.Ytlbkoafeedlfaaa

namespace Go.Proofs.Ytlbkoafeedlfaaa
open Go.RowKit

/-- The same nodes, their attributes elsewhere. -/
def AvOnly (ns ns' : List NodeM) : Prop := ns'.length = ns.length ∧ ∀ (j : Nat) n', ns'[j]? = some n' → ∃ n, ns[j]? = some n ∧ n' = { n with av := n'.av }

theorem copy_ar {w1 w2 : World} {base gN gA cap o : Nat} {ns ns' : List NodeM} (hS : SepS w1 w2 base gN gA cap ns ns' o 0) (hl : ns'.length = ns.length) (hpos : 0 < ns.length) (hmost : ns.length ≤ 32768)
    (hfew : ∀ (i : Nat) n, ns[i]? = some n → n.attrs.length ≤ 1024) (hb : base ≤ w1.heap.size) :
    Ar ((w2.alloc (.cells #[.slice (some ⟨gN, 0, none⟩) ns.length cap] 72)).alloc (.cells #[.pointer (some ⟨w2.heap.size, 0, none⟩)] 74)) base (w2.heap.size + 1) w2.heap.size gN cap ns' := by
  have hsz := hS.mod.size
  have hrow := hS.row
  rw [hl, List.drop_length, List.append_nil] at hrow
  have seg : ∀ (i : Nat) n, ns'[i]? = some n → Seg w2 base n.av n.attrs.length (attrRow n.attrs) := fun i n hi => by
    have := hS.segs i n hi
    refine ⟨this.1, this.2.imp id ?_⟩
    rintro ⟨g, off, c, cur, e, h1, r⟩
    exact ⟨g, off, c, cur, e, by omega, r⟩
  refine ⟨?_, ?_, ?_, by omega, by omega, by omega, by omega, fun i n hi => ((seg i n hi).alloc _).alloc _, fun i n hi => ?_, hS.apart⟩
  · have := heap_alloc_new (w2.alloc (.cells #[.slice (some ⟨gN, 0, none⟩) ns.length cap] 72)) (.cells #[.pointer (some ⟨w2.heap.size, 0, none⟩)] 74)
    simpa using this
  · rw [Below.heap_alloc _ _ _ (by simp), hl]
    exact heap_alloc_new w2 _
  · rw [hl]; exact (hrow.alloc _).alloc _
  · obtain ⟨m, h1, h2⟩ := hS.same i n hi
    have := hfew i m h1
    rw [h2]; exact this

theorem Try.size37 : (Try.prog.info? 37).map (·.size) = some 12 := by kernel_rfl

theorem copy_below {w w1 w2 : World} (h1 : w.grownBy w1 none) (h2 : w1.grownBy w2 (some w.heap.size)) : Below w.heap.size w w2 ∧ w.heap.size ≤ w2.heap.size :=
  ⟨((Below.refl _ w).grown h1 (Nat.le_refl _) (by simp)).grown h2 h1.size (fun k hk => by simp at hk; omega), Nat.le_trans h1.size h2.size⟩

theorem copy_sep {w w2 : World} {base bA bS g cap c2 : Nat} {ns : List NodeM} (h : Ar w base bA bS g cap ns) (hb : Below w.heap.size w w2 ∧ w.heap.size ≤ w2.heap.size) (hrow : w2.ownsRow w.heap.size 37 12 (.slice (some ⟨w.heap.size, 0, none⟩) ns.length c2) ns.length (nodeRow ns)) :
    Calls Try.prog 58 #[.slice (some ⟨w.heap.size, 0, none⟩) ns.length c2] w2 fun e w' => e = .returned (.tuple #[]) ∧ ∃ ns' gA o, SepS w2 w' w.heap.size w.heap.size gA c2 ns ns' o 0 ∧ ns'.length = ns.length := by
  refine sep_any hrow h.most h.few (fun i n hi => ?_)
  obtain ⟨a, c, hav, hin⟩ := seg_attrs (h.attrs i n hi)
  refine ⟨a, c, hav, hin.below hb.1, fun b o e => ?_⟩
  have := (h.attrs i n hi).lt b (by rw [hav, e]; rfl)
  omega

set_option maxRecDepth 100000 in
set_option maxHeartbeats 2000000 in
theorem copy_any {w : World} {base bA bS g cap : Nat} {ns : List NodeM} (h : Ar w base bA bS g cap ns) :
    Calls Try.prog 22 #[.pointer (some ⟨bA, 0, none⟩)] w fun e w' => ∃ bA' bS' g' cap' ns', e = .returned (.pointer (some ⟨bA', 0, none⟩)) ∧ Ar w' w.heap.size bA' bS' g' cap' ns' ∧ AvOnly ns ns' ∧ Below w.heap.size w w' ∧ bA' < w'.heap.size := by
  have hA := h.cA
  have hS := h.cS
  have hmost := h.most
  have hpos := h.pos
  have HM := hide (made_yes h)
  have HA := hide h
  obtain ⟨i0, hi, hz0, hz1, hz2⟩ := info_parts Try.info37
  have ltS := h.lt.2.1
  have ltA := h.lt.1
  have ltg := h.lt.2.2
  have HR := hide (h.row.cells (g := g) rfl)
  have hnl : (nodeRow ns).length = ns.length * 12 := flat_len NodeM.cells 12 node_len ns
  have HN := hide hnl
  have HO := hide (nodes_oneCell ns (fun n hn => by obtain ⟨i, hi⟩ := List.mem_iff_getElem?.1 hn; exact (h.attrs i n hi).oneCell))
  clear h hnl
  go_enter Try.func22, Try.ntmps22
  go_wp2_with (first
    | (go_at_call 53; refine (unhide HM).mono ?_; rintro e w' ⟨rfl, rfl⟩)
    | (at_make; go_must (refine wpList_make_full _ rfl _ _ 70 rfl w.heap.size 37 i0 _ 12 Try.underlying70 hi hz0 hz1 _ _ _ _ ns.length rfl rfl rfl rfl (by rw [hz2]; omega) (by unfold maxLen; omega) (Nat.le_refl _) ?_); intro w1 hown1 hgrow1; have hA1 : w1.cell? ⟨bA, 0, none⟩ = some (.pointer (some ⟨bS, 0, none⟩)) := (hgrow1.cell_far ⟨bA, 0, none⟩ (by simp; omega) (by simp)).trans hA; have hS1 : w1.cell? ⟨bS, 0, none⟩ = some (.slice (some ⟨g, 0, none⟩) ns.length cap) := (hgrow1.cell_far ⟨bS, 0, none⟩ (by simp; omega) (by simp)).trans hS)
    | (refine wpList_copy_full rfl _ _ 70 70 rfl w.heap.size 37 12 Try.underlying70 Try.size37 w.heap.size ns.length ns.length _ ⟨g, 0, none⟩ cap rfl rfl hown1 (nodeRow ns) (unhide HN) (fun j v hv => (hgrow1.cell ((unhide HR) j v hv) (by rw [add_at]; simp))) (unhide HO) ?_; intro w2 hown2 hgrow2; have hb2 := copy_below hgrow1 hgrow2; have HO2 := hide hown2; have HB2 := hide hb2; clear hown2 hgrow2 hb2 hown1 hgrow1)
    | (go_at_call 58; refine (copy_sep (unhide HA) (unhide HB2) (unhide HO2)).mono ?_; rintro e w3 ⟨rfl, ns', gA, o, hs3, hl3⟩; have HS3 := hide hs3; have HL3 := hide hl3; clear hs3 hl3))
  go_ret
  have hb3 : Below w.heap.size w w3 := (unhide HB2).1.trans ((unhide HS3).mod.below (unhide HB2).2 (fun k hk => by omega))
  exact ⟨_, _, _, _, ns', rfl, copy_ar (unhide HS3) (unhide HL3) hpos hmost (unhide HA).few (unhide HB2).2, ⟨unhide HL3, (unhide HS3).same⟩, (hb3.alloc hb3.size _).alloc (by have := hb3.size; simp; omega) _, by simp⟩
end Go.Proofs.Ytlbkoafeedlfaaa
