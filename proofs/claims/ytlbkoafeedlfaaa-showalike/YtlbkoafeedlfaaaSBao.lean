/-
  What an append and a clear do to a slice of attributes that lies anywhere in a block. slices.Delete of one attribute; DelAttr.
-/
import Derived.Test.YtlbkoafeedlfaaaSBan
import Derived.Deep.AppendSrc
namespace Go.Proofs.Ytlbkoafeedlfaaa
open Go.RowKit

theorem add_at (b off j : Nat) : (⟨b, off, none⟩ : Addr).add j = ⟨b, off + j, none⟩ := by unfold Addr.add; split <;> simp_all

theorem setCells_block (b : Nat) : ∀ (vs : List Value) (o : Nat) (w : World) (cur : Array Value) (t : TypeId), w.heap[b]? = some (.cells cur t (0, 0)) →
    ∃ cur', (w.setCells b o vs).heap[b]? = some (.cells cur' t (0, 0)) ∧ cur'.size = cur.size
  | [], _, w, cur, t, h => ⟨cur, h, rfl⟩
  | v :: r, o, w, cur, t, h => by
    have h1 := heap_setCell_same w b o cur t v h
    obtain ⟨cur', h2, h3⟩ := setCells_block b r (o + 1) _ _ t h1
    exact ⟨cur', h2, by rw [h3]; simp⟩
theorem setCells_size (b : Nat) : ∀ (vs : List Value) (o : Nat) (w : World), (w.setCells b o vs).heap.size = w.heap.size
  | [], _, _ => rfl
  | v :: r, o, w => by rw [World.setCells, setCells_size b r]; simp
theorem setCells_other (b k : Nat) (hk : k ≠ b) : ∀ (vs : List Value) (o : Nat) (w : World), (w.setCells b o vs).heap[k]? = w.heap[k]?
  | [], _, _ => rfl
  | v :: r, o, w => by rw [World.setCells, setCells_other b k hk r]; exact Below.heap_setCell _ _ _ _ hk
theorem setCells_rest (b : Nat) : ∀ (vs : List Value) (o : Nat) (w : World), (w.setCells b o vs).os = w.os ∧ (w.setCells b o vs).tape = w.tape ∧ (w.setCells b o vs).output = w.output
  | [], _, _ => ⟨rfl, rfl, rfl⟩
  | v :: r, o, w => by rw [World.setCells]; exact setCells_rest b r (o + 1) _

/-- Cells written within its room, behind its first m elements. -/
theorem Seg.wrote {w : World} {base g off n m cap : Nat} {xs news : List Value} (h : Seg w base (.slice (some ⟨g, off, none⟩) n cap) n xs) (hm : m ≤ n) (k : Nat) (hl : news.length = k * 4) (hroom : m + k ≤ cap) :
    Seg (w.setCells g (off + m * 4) news) base (.slice (some ⟨g, off, none⟩) (m + k) cap) (m + k) (xs.take (m * 4) ++ news) ∧ w.grownBy (w.setCells g (off + m * 4) news) (some g) ∧
      Out (.slice (some ⟨g, off, none⟩) n cap) w (w.setCells g (off + m * 4) news) := by
  obtain ⟨cur, hg, hb, hn, hmx, hs, hc⟩ := h.room
  obtain ⟨cur', h1, h2⟩ := setCells_block g news (off + m * 4) w cur 29 hg
  have hx := h.1
  have out : ∀ j, (j < off + m * 4 ∨ off + m * 4 + news.length ≤ j) → cur'[j]? = cur[j]? := by
    intro j hj
    rw [← cell_of_row _ g j cur' 29 (0, 0) h1, World.cell?_setCells_out g _ _ _ _ (fun _ _ => hj), cell_of_row w g j cur 29 (0, 0) hg]
  obtain ⟨r1, r2, r3⟩ := setCells_rest g news (off + m * 4) w
  refine ⟨⟨by rw [List.length_append, List.length_take, hl]; omega, .inr ⟨g, off, cap, cur', rfl, hb, h1, hroom, hmx, by omega, fun j hj => ?_⟩⟩, ⟨r1, r2, r3, by rw [setCells_size]; exact Nat.le_refl _, fun k _ hk => setCells_other g k (fun e => hk (by rw [e])) _ _ _⟩, ?_⟩
  · by_cases hjm : j < m * 4
    · rw [out _ (.inl (by omega)), hc j (by omega), List.getElem?_append_left (by rw [List.length_take]; omega), List.getElem?_take, if_pos hjm]
    · have ht : (xs.take (m * 4)).length = m * 4 := by rw [List.length_take]; omega
      rw [List.getElem?_append_right (by omega), ht]
      have hjl : j - m * 4 < news.length := by omega
      have := World.cell?_setCells_in g news (off + m * 4) w (fun i hi => by rw [cell_of_row w g _ cur 29 (0, 0) hg, Array.getElem?_eq_getElem (by omega)]; rfl) (j - m * 4) hjl
      rw [show off + m * 4 + (j - m * 4) = off + j by omega, cell_of_row _ g _ cur' 29 (0, 0) h1] at this
      rw [this, List.getElem?_eq_getElem hjl]
  · intro g2 off2 n2 c2 cur2 hv hg2
    cases hv
    rw [hg] at hg2
    cases hg2
    exact ⟨cur', h1, h2, fun j hj => out j (by omega)⟩

theorem Seg.prefix {w : World} {base g off n cap : Nat} {xs : List Value} (h : Seg w base (.slice (some ⟨g, off, none⟩) n cap) n xs) (m : Nat) (hm : m ≤ n) :
    Seg w base (.slice (some ⟨g, off, none⟩) m cap) m (xs.take (m * 4)) := by
  obtain ⟨cur, hg, hb, hn, hmx, hs, hc⟩ := h.room
  have hx := h.1
  refine ⟨by rw [List.length_take]; omega, .inr ⟨g, off, cap, cur, rfl, hb, hg, by omega, hmx, hs, fun j hj => ?_⟩⟩
  rw [hc j (by omega), List.getElem?_take, if_pos hj]

section
variable {w : World} {base : Nat}

theorem run_seg_room {g off n cap : Nat} {xs : List Value} (h : Seg w base (.slice (some ⟨g, off, none⟩) n cap) n xs) (ty : TypeId) (x : Value) (m : Nat) (news : List Value) (hs : Src Try.prog 4 30 x m news w) (hl : news.length = m * 4) (hroom : n + m ≤ cap) :
    ∃ w', (Builtin.append_ #[30, 30] ty #[.slice (some ⟨g, off, none⟩) n cap, x]).run Try.prog w = .ok (.slice (some ⟨g, off, none⟩) (n + m) cap) w' ∧ Seg w' base (.slice (some ⟨g, off, none⟩) (n + m) cap) (n + m) (xs ++ news) ∧
      w.grownBy w' (some g) ∧ Out (.slice (some ⟨g, off, none⟩) n cap) w w' := by
  obtain ⟨i0, hi0, hz0, hz1, hz2⟩ := info_parts Try.info29
  obtain ⟨cur, hg, hb, hn, hmx, hsz, hc⟩ := h.room
  have hr := run_append_room_src (P := Try.prog) w 30 30 ty 29 i0 Try.underlying30 hi0 g off n cap x m news (by rw [hz1]; exact hs) hroom
    (by rw [hz1]; intro j hj; rw [cell_of_row w g _ cur 29 (0, 0) hg, Array.getElem?_eq_getElem (by omega)]; rfl) (by intro j _; exact h.frozenAt _)
  rw [hz1] at hr
  obtain ⟨h1, h2, h3⟩ := h.wrote (Nat.le_refl n) m hl hroom
  rw [List.take_of_length_le (by rw [h.1]; exact Nat.le_refl _)] at h1
  exact ⟨_, hr, h1, h2, h3⟩

/-- One attribute behind a slice of them. -/
theorem run_seg_append {v : Value} {n : Nat} {xs : List Value} (h : Seg w base v n xs) (ty : TypeId) (ad : Addr) (c : Nat) (news : List Value) (hl : news.length = 4) (hnews : ∀ j u, news[j]? = some u → w.cell? (ad.add j) = some u) (h1 : ∀ u ∈ news, u.oneCell' = true)
    (hn : n ≤ 100000) (hbase : base ≤ w.heap.size) (H : Nat) (hH : w.heap.size = H) :
    ∃ g off cap w', (Builtin.append_ #[30, 30] ty #[v, .slice (some ad) 1 c]).run Try.prog w = .ok (.slice (some ⟨g, off, none⟩) (n + 1) cap) w' ∧ Seg w' base (.slice (some ⟨g, off, none⟩) (n + 1) cap) (n + 1) (xs ++ news) ∧
      w.grownBy w' v.ownBlock ∧ Out v w w' ∧ ((∃ m, v = .slice (some ⟨g, off, none⟩) m cap) ∨ g = H) ∧ g < w'.heap.size := by
  obtain ⟨i0, hi0, hz0, hz1, hz2⟩ := info_parts Try.info29
  have hs : Src Try.prog 4 30 (.slice (some ad) 1 c) 1 news w := Src.ofSlice w Try.underlying30 ad 1 c news (by omega) hnews h1
  have grow : ∀ ao cp, v = .slice ao n cp → cp < n + 1 → (Builtin.firstCells i0.size n (.slice ao n cp)).run Try.prog w.drew = .ok xs.toArray w.drew →
      ∃ g off cap w', (Builtin.append_ #[30, 30] ty #[v, .slice (some ad) 1 c]).run Try.prog w = .ok (.slice (some ⟨g, off, none⟩) (n + 1) cap) w' ∧ Seg w' base (.slice (some ⟨g, off, none⟩) (n + 1) cap) (n + 1) (xs ++ news) ∧
      w.grownBy w' v.ownBlock ∧ Out v w w' ∧ ((∃ m, v = .slice (some ⟨g, off, none⟩) m cap) ∨ g = H) ∧ g < w'.heap.size := by
    intro ao cp hv hcp hold
    have hr := run_append_grow_src (P := Try.prog) w 30 30 ty 29 i0 _ Try.underlying30 hi0 hz0 ao n cp xs hold _ 1 news (by rw [hz1]; exact hs) hcp (by omega) (growslice_fits hcp (by rw [hz2]; omega))
    have hge := grownCap_ge w (n + 1) cp 29
    have hle := grownCap_le_maxLen w (n + 1) cp 29 (by unfold maxLen; omega)
    have hx := h.1
    refine ⟨w.heap.size, 0, grownCap w (n + 1) cp 29, _, by rw [hv]; exact hr, ⟨by rw [List.length_append]; omega, .inr ⟨w.heap.size, 0, _, _, rfl, hbase, heap_alloc_new w.drew _, hge, hle, ?_, fun j hj => ?_⟩⟩, ⟨rfl, rfl, rfl, by simp, fun k hk _ => heap_alloc_old w.drew _ hk⟩,
      Out.same (fun k hk => heap_alloc_old w.drew _ (h.lt k hk).2), .inr hH, by simp⟩
    · simp only [Array.size_append, List.size_toArray, size_zeroCells, List.length_append]
      simp [Value.cells]
      omega
    · rw [Nat.zero_add, Array.getElem?_append_left (by simp only [List.size_toArray, List.length_append]; omega)]
      simp
  rcases h.2 with ⟨rfl, rfl⟩ | ⟨g, off, cap, cur, rfl, hb, hg, hnc, hmx, hsz, hc⟩
  · have : xs = [] := List.eq_nil_of_length_eq_zero (by rw [h.1])
    subst this
    exact grow none 0 rfl (by omega) (run_firstCells_none _ _ _ _ _)
  · by_cases hroom : n + 1 ≤ cap
    · obtain ⟨w', r1, r2, r3, r4⟩ := run_seg_room h ty _ 1 news hs (by omega) hroom
      exact ⟨g, off, cap, w', r1, r2, r3, r4, .inl ⟨_, rfl⟩, Nat.lt_of_lt_of_le (lt_of_block hg) r3.size⟩
    · refine grow _ cap rfl (by omega) ?_
      rw [hz1]
      refine run_firstCells_some w.drew 4 n _ n cap xs h.1 (fun j u hu => ?_)
      have hj := (List.getElem?_eq_some_iff.1 hu).1
      rw [add_at]
      have := h.cellAt j (by rw [← h.1]; exact hj)
      rw [hu] at this
      exact this
end

theorem step_seg_append {ops : Array Oper} {o : Oper} {a : Act} {w : World} {K : Act → World → Prop} {Q : Exit → Act → World → Prop} {E : Prop} (hgd : o.guard = none) (s x : Operand)
    (ho : o.op = .call { callee := .builtin .append, args := #[s, x], argTypes := #[30, 30] }) (base : Nat) (v : Value) (n : Nat) (xs : List Value) (hs : a.eval s = v) (hseg : Seg w base v n xs)
    (ad : Addr) (c : Nat) (news : List Value) (hx : a.eval x = .slice (some ad) 1 c) (hl : news.length = 4) (hnews : ∀ j u, news[j]? = some u → w.cell? (ad.add j) = some u) (h1 : ∀ u ∈ news, u.oneCell' = true)
    (hn : n ≤ 100000) (hbase : base ≤ w.heap.size) (H : Nat) (hH : w.heap.size = H)
    (h : ∀ g off cap w', Seg w' base (.slice (some ⟨g, off, none⟩) (n + 1) cap) (n + 1) (xs ++ news) → w.grownBy w' v.ownBlock → Out v w w' → ((∃ m, v = .slice (some ⟨g, off, none⟩) m cap) ∨ g = H) → g < w'.heap.size → K (a.put o.dst (.slice (some ⟨g, off, none⟩) (n + 1) cap)) w') :
    if Region.wanted o (yielded ops a.tmps) = true then Oper.wp Try.prog o a w K Q else E := by
  have hw : Region.wanted o (yielded ops a.tmps) = true := by simp [Region.wanted, hgd]
  rw [if_pos hw]
  obtain ⟨g, off, cap, w', hr, h2, h3, h4, h5, h6⟩ := run_seg_append hseg o.type ad c news hl hnews h1 hn hbase H hH
  unfold Oper.wp execOp
  simp only [ho, resolve, invoke, builtin, Sem.run_bind, Sem.run_pure, Result.andThen_ok, List.map_toArray, List.map_cons, List.map_nil, hs, hx, hr]
  exact h g off cap w' h2 h3 h4 h5 h6

/-- append within the room, as one step of a region that draws its order. -/
theorem step_seg_fits {ops : Array Oper} {o : Oper} {a : Act} {w : World} {K : Act → World → Prop} {Q : Exit → Act → World → Prop} {E : Prop}
    (hgd : o.guard = none) (s x : Operand) (ho : o.op = .call { callee := .builtin .append, args := #[s, x], argTypes := #[30, 30] })
    (base g off n cap : Nat) (xs : List Value) (hs : a.eval s = .slice (some ⟨g, off, none⟩) n cap) (hseg : Seg w base (.slice (some ⟨g, off, none⟩) n cap) n xs)
    (ad : Addr) (m c : Nat) (news : List Value) (hx : a.eval x = .slice (some ad) m c) (hl : news.length = m * 4) (hc : ∀ j u, news[j]? = some u → w.cell? (ad.add j) = some u) (h1c : ∀ u ∈ news, u.oneCell' = true)
    (hroom : n + m ≤ cap)
    (hK : ∀ w', Seg w' base (.slice (some ⟨g, off, none⟩) (n + m) cap) (n + m) (xs ++ news) → w.grownBy w' (some g) → Out (.slice (some ⟨g, off, none⟩) n cap) w w' → K (a.put o.dst (.slice (some ⟨g, off, none⟩) (n + m) cap)) w') :
    if Region.wanted o (yielded ops a.tmps) = true then Oper.wp Try.prog o a w K Q else E := by
  have hw : Region.wanted o (yielded ops a.tmps) = true := by simp [Region.wanted, hgd]
  rw [if_pos hw]
  obtain ⟨w', hrun, r1, r2, r3⟩ := run_seg_room hseg o.type (.slice (some ad) m c) m news (Src.ofSlice w Try.underlying30 ad m c news hl hc h1c) hl hroom
  unfold Oper.wp
  simp [execOp, ho, resolve, invoke, builtin, hs, hx, hrun, Result.andThen]
  exact hK w' r1 r2 r3
end Go.Proofs.Ytlbkoafeedlfaaa

namespace Go.Proofs.Ytlbkoafeedlfaaa
open Go.RowKit

theorem attrRow_drop (l : List AttrM) (k : Nat) : attrRow (l.drop k) = (attrRow l).drop (k * 4) := by
  induction l generalizing k with
  | nil => simp [attrRow]
  | cons x l ih =>
    cases k with
    | zero => simp
    | succ k =>
      have := ih k
      simp only [attrRow, List.drop_succ_cons, List.flatMap_cons] at this ⊢
      have d0 : List.drop ((k + 1) * 4) x.cells = [] := List.drop_eq_nil_of_le (by rw [attr_len]; omega)
      have e : (k + 1) * 4 - 4 = k * 4 := by omega
      rw [this, List.drop_append, d0, attr_len, e]; simp
theorem attrRow_take (l : List AttrM) (k : Nat) : attrRow (l.take k) = (attrRow l).take (k * 4) := by
  induction l generalizing k with
  | nil => simp [attrRow]
  | cons x l ih =>
    cases k with
    | zero => simp [attrRow]
    | succ k =>
      have := ih k
      simp only [attrRow, List.take_succ_cons, List.flatMap_cons] at this ⊢
      have d0 : List.take ((k + 1) * 4) x.cells = x.cells := List.take_of_length_le (by rw [attr_len]; omega)
      have e : (k + 1) * 4 - 4 = k * 4 := by omega
      rw [this, List.take_append, d0, attr_len, e]

theorem attrRow_erase (l : List AttrM) (j : Nat) : (attrRow l).take (j * 4) ++ attrRow (l.drop (j + 1)) = attrRow (l.eraseIdx j) := by
  rw [← attrRow_take, List.eraseIdx_eq_take_drop_succ]; simp [attrRow]

theorem grownBy_trans {a b c : World} {row : Option Nat} (h1 : a.grownBy b row) (h2 : b.grownBy c row) : a.grownBy c row :=
  ⟨h2.os.trans h1.os, h2.tape.trans h1.tape, h2.output.trans h1.output, Nat.le_trans h1.size h2.size, fun k hk hne => (h2.block k (Nat.lt_of_lt_of_le hk h1.size) hne).trans (h1.block k hk hne)⟩

def zeroA : List Value := [.int .i64 0, .string ⟨#[]⟩, .string ⟨#[]⟩, .string ⟨#[]⟩]

theorem clear_one {w : World} {base ga oa N cp : Nat} {xs : List Value} (hown : Seg w base (.slice (some ⟨ga, oa, none⟩) N cp) N xs) (hroom : N + 1 ≤ cp) (c : Nat) :
    ∃ w', (Builtin.clear_ #[30] 0 #[.slice (some ⟨ga, oa + N * 4, none⟩) 1 c]).run Try.prog w = .ok (.tuple #[]) w' ∧ Seg w' base (.slice (some ⟨ga, oa, none⟩) N cp) N xs ∧ w.grownBy w' (some ga) ∧ Out (.slice (some ⟨ga, oa, none⟩) N cp) w w' := by
  obtain ⟨cur, hg, hb, hn, hmx, hs, hc⟩ := hown.room
  have hz : (Builtin.zeroCells #[.int .i64 0, .string ⟨#[]⟩, .string ⟨#[]⟩, .string ⟨#[]⟩] 1).toList = zeroA := by kernel_rfl
  have hzl : zeroA.length = 4 := rfl
  have hst := run_storeCells_cells (P := Try.prog) ga (oa + N * 4) zeroA 0 w (by intro j hj; rw [cell_of_row w ga _ cur 29 (0, 0) hg, Array.getElem?_eq_getElem (by omega)]; rfl) (by intro j _; exact hown.frozenAt _) (by simp [zeroA, Value.oneCell'])
  obtain ⟨h1, h2, h3⟩ := hown.wrote (news := zeroA) (Nat.le_refl N) 1 rfl hroom
  have h4 := h1.prefix N (by omega)
  have hx := hown.1
  rw [List.take_of_length_le (l := xs) (by omega), List.take_append_of_le_length (by omega), List.take_of_length_le (by omega)] at h4
  refine ⟨_, ?_, h4, h2, h3⟩
  simp [Builtin.clear_, run_underlying Try.underlying30, Try.zeroValue29, hz, Value.cells]
  simp at hst
  rw [hst]; simp

theorem out_room {a : Option Addr} {n m c : Nat} {w w' : World} (h : Out (.slice a n c) w w') : Out (.slice a m c) w w' := by
  intro g off k cp cur e hg
  cases e
  exact h g off n c cur rfl hg

set_option maxRecDepth 100000 in
set_option maxHeartbeats 2000000 in
theorem delete_last {w : World} {base ga oa N : Nat} (l : List AttrM) (hN : l.length = N + 1) (hown : Seg w base (.slice (some ⟨ga, oa, none⟩) (N + 1) (N + 1)) (N + 1) (attrRow l)) (hfew : N < 1024) :
    Calls Try.prog 100 #[.slice (some ⟨ga, oa, none⟩) (N + 1) (N + 1), .int .i64 N, .int .i64 ((N : Int) + 1)] w fun e w' => e = .returned (.slice (some ⟨ga, oa, none⟩) N (N + 1)) ∧
      Seg w' base (.slice (some ⟨ga, oa, none⟩) N (N + 1)) N (attrRow (l.eraseIdx N)) ∧ w.grownBy w' (some ga) ∧ Out (.slice (some ⟨ga, oa, none⟩) (N + 1) (N + 1)) w w' := by
  have hpre := hown.prefix N (by omega)
  have hnil : l.drop (N + 1) = [] := List.drop_eq_nil_of_le (by omega)
  have herase := attrRow_erase l N
  rw [hnil] at herase
  have HP := hide hpre
  have HEr := hide (show (attrRow l).take (N * 4) ++ [] = attrRow (l.eraseIdx N) from herase)
  clear hown hpre hN hnil herase
  have f1 : ((N : Int) == (N : Int) + 1) = false := beq_eq_false_iff_ne.2 (by omega)
  have b3 : (0 : Int) ≤ (N : Int) + 1 := by omega
  have q1 : (N : Int) ≤ (N : Int) + 1 := by omega
  have q2 : N ≤ N + 1 := by omega
  obtain ⟨i0, hi0, hz0, hz1, hz2⟩ := info_parts Try.info29
  go_enter Try.func100, Try.ntmps100
  go_wp2_with fail
  go_region_law ((refine step_seg_fits (by rfl) (.tmp 22) (.tmp 25) (by rfl) base ga oa N (N + 1) ((attrRow l).take (N * 4)) (by rfl) (by exact (unhide HP)) ⟨ga, oa, none⟩ 0 0 [] (by rfl) (by simp) (by exact (fun r u hr => by simp at hr)) (by simp) (by omega) ?_; intro w4 hown4 hgrow hout; have HU4 := hide hout; clear hout; rw [Nat.add_zero, unhide HEr] at hown4; rw [Nat.add_zero]; have HG4 := hide hgrow; obtain ⟨w5, hclr, ho5, hg5, hu5⟩ := clear_one hown4 (by omega) 1; have HO5 := hide ho5; have HG5 := hide hg5; have HU5 := hide hu5; clear hown4 hgrow ho5 hg5 hu5))
  go_wp2
  go_ret
  exact ⟨rfl, unhide HO5, grownBy_trans ⟨(unhide HG4).os, (unhide HG4).tape, (unhide HG4).output, (unhide HG4).size, (unhide HG4).block⟩ (unhide HG5), Out.trans (b := w4) (out_room (unhide HU4)) (out_room (unhide HU5))⟩

set_option maxRecDepth 100000 in
set_option maxHeartbeats 2000000 in
theorem delete_any {w : World} {base ga oa cp N : Nat} (l : List AttrM) (hN : l.length = N + 1) (hown : Seg w base (.slice (some ⟨ga, oa, none⟩) (N + 1) cp) (N + 1) (attrRow l)) (j : Nat) (hj : j ≤ N) (hfew : N < 1024) :
    Calls Try.prog 100 #[.slice (some ⟨ga, oa, none⟩) (N + 1) cp, .int .i64 j, .int .i64 ((j : Int) + 1)] w fun e w' => e = .returned (.slice (some ⟨ga, oa, none⟩) N cp) ∧
      Seg w' base (.slice (some ⟨ga, oa, none⟩) N cp) N (attrRow (l.eraseIdx j)) ∧ w.grownBy w' (some ga) ∧ Out (.slice (some ⟨ga, oa, none⟩) (N + 1) cp) w w' := by
  have hcap : N + 1 ≤ cp ∧ cp ≤ maxLen := by
    obtain ⟨cur, hg, hb, hnc, hcm, _⟩ := hown.room
    exact ⟨hnc, hcm⟩
  obtain ⟨hc1, hc2⟩ := hcap
  unfold maxLen at hc2
  by_cases hcj : cp = j + 1
  · obtain rfl : j = N := by omega
    subst hcj
    exact delete_last l hN hown hfew
  have hpre := hown.prefix j (by omega)
  have hnl : (attrRow (l.drop (j + 1))).length = (N - j) * 4 := by rw [show (attrRow (l.drop (j + 1))).length = (l.drop (j + 1)).length * 4 from flat_len AttrM.cells 4 attr_len _, List.length_drop, hN]; congr 1; omega
  have hcells : ∀ r u, (attrRow (l.drop (j + 1)))[r]? = some u → w.cell? ⟨ga, oa + (j + 1) * 4 + r, none⟩ = some u := by
    intro r u hr
    have hlt := (List.getElem?_eq_some_iff.1 hr).1
    rw [attrRow_drop, List.getElem?_drop] at hr
    rw [Nat.add_assoc, hown.cellAt ((j + 1) * 4 + r) (by omega)]; exact hr
  have HO := hide hown
  have HP := hide hpre
  have HNL := hide hnl
  have HC := hide hcells
  have HEr := hide (attrRow_erase l j)
  have HOne := hide (attrs_oneCell (l.drop (j + 1)))
  clear hown hpre hnl hcells hN
  have f1 : ((j : Int) == (j : Int) + 1) = false := beq_eq_false_iff_ne.2 (by omega)
  have b1 : j ≤ cp := by omega
  have b2 : j ≤ N := hj
  have b3 : (0 : Int) ≤ (j : Int) + 1 := by omega
  have hjN : j + (N - j) = N := by omega
  have HJN := hide hjN
  clear hjN
  obtain ⟨i0, hi0, hz0, hz1, hz2⟩ := info_parts Try.info29
  go_enter Try.func100, Try.ntmps100
  go_wp2_with fail
  have hsrc : ∀ r u, (attrRow (l.drop (j + 1)))[r]? = some u → w.drew.cell? ((⟨ga, oa + (j + 1) * 4, none⟩ : Addr).add r) = some u := by
    intro r u hr
    have hadd : (⟨ga, oa + (j + 1) * 4, none⟩ : Addr).add r = ⟨ga, oa + (j + 1) * 4 + r, none⟩ := by unfold Addr.add; split <;> simp_all
    rw [hadd]; exact (unhide HC) r u hr
  have HS := hide hsrc
  clear hsrc
  have b6 : ¬ cp = N := by omega
  have b7 : N ≤ cp := by omega
  have b5 : ¬ cp = j + 1 := hcj
  go_region_law ((refine step_seg_fits (by rfl) (.tmp 22) (.tmp 25) (by rfl) base ga oa j cp ((attrRow l).take (j * 4)) (by rfl) (by exact (unhide HP)) ⟨ga, oa + (j + 1) * 4, none⟩ (N - j) _ (attrRow (l.drop (j + 1))) (by rfl) (by exact (unhide HNL)) (by exact (unhide HS)) (by exact (unhide HOne)) (by omega) ?_; intro w4 hown4 hgrow hout; have HU4 := hide hout; clear hout; rw [unhide HJN, unhide HEr] at hown4; rw [unhide HJN]; have HO4 := hide hown4; have HG4 := hide hgrow; obtain ⟨w5, hclr, ho5, hg5, hu5⟩ := clear_one hown4 (by omega) (cp - N); have HO5 := hide ho5; have HG5 := hide hg5; have HU5 := hide hu5; clear hown4 hgrow ho5 hg5 hu5))
  go_wp2
  go_ret
  exact ⟨rfl, unhide HO5, grownBy_trans ⟨(unhide HG4).os, (unhide HG4).tape, (unhide HG4).output, (unhide HG4).size, (unhide HG4).block⟩ (unhide HG5), Out.trans (b := w4) (out_room (unhide HU4)) (out_room (unhide HU5))⟩
end Go.Proofs.Ytlbkoafeedlfaaa
