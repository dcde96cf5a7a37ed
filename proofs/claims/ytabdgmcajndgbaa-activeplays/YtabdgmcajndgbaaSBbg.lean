/-
  The document's list: an entry is put in at a place.
-/
import Derived.Test.YtabdgmcajndgbaaSBbf
import Derived.Laws.AppendOwnNone
namespace Go.Proofs.Ytabdgmcajndgbaa
open Go.RowKit Go.Sort

section
variable {w : World} {base bQ bR : Nat} {v : Value} {qs : List EntQ} {ks : List Key} {F FR : Nat → Prop}
/-- The list is another one, in a block of its own that is new. -/
theorem QlM.fresh2 (h : QlM w base bQ bR v qs) (hF : ∀ k, F k ↔ footQ bQ v k) {w2 : World} {v2 : Value} {ps : List EntQ} (hb : Below w.heap.size w w2) (hown : w2.ownsRow w.heap.size 46 10 v2 ps.length (qRow ps)) (hps : ∀ x ∈ ps, AttrsIn w x.a x.tok.attrs ∧ ∀ b off, x.a = some ⟨b, off, none⟩ → x.tok.attrs ≠ [] → b < base) : UpdQ F w (w2.setCell ⟨bQ, 1, none⟩ v2) base bQ bR ps ∧ w2.frozen? ⟨bQ, 1, none⟩ = false ∧ w2.cell? ⟨bQ, 1, none⟩ = some v := by
  have hlt := lt_of_block h.box
  have hlo := h.lo
  have hbx := (hb.block bQ hlt).trans h.box
  have hne : ∀ k, v2.ownBlock = some k → k ≠ bQ := fun k hk e => by
    have := (hown.lt k hk).1
    omega
  have hm : Mod F w (w2.setCell ⟨bQ, 1, none⟩ v2) := (Mod.of_below hb).trans (Mod.setCell _ _ _ ((hF _).2 (.inl rfl)))
  refine ⟨⟨footQ bQ v2, ⟨v2, ⟨?_, ?_, fun i y hy => ?_, h.lo⟩, fun _ => Iff.rfl⟩, hm, ?_⟩, by simp [World.frozen?, hbx], cell_of_row _ _ 1 _ _ _ hbx⟩
  · have := heap_setCell_same w2 bQ 1 #[.pointer (some ⟨bR, 0, none⟩), v] 43 v2 hbx
    simpa using this
  · have := ownsRow_setCell_other hown (a := ⟨bQ, 1, none⟩) (fun e => hne _ e rfl) v2
    rcases this with ⟨h1, ⟨e, h0⟩ | ⟨g, cap, cur, e, lo, h2⟩⟩
    · exact ⟨h1, .inl ⟨e, h0⟩⟩
    · exact ⟨h1, .inr ⟨g, cap, cur, e, by omega, h2⟩⟩
  · have hL := hps y (List.mem_of_getElem? hy)
    refine ⟨hL.1.modN (fun b off e hne => ?_), hL.2⟩
    have hb2 := hL.2 b off e hne
    exact hm.block b (by omega) (fun e => by have := (h.lt ((hF b).1 e)).1; omega)
  · rintro k (rfl | hk)
    · exact .inl ((hF _).2 (.inl rfl))
    · exact .inr (hown.lt k hk).1
theorem qRow_take (qs : List EntQ) {n : Nat} (hn : n ≤ qs.length) : (qRow (qs.take n)).length = n * 10 := by rw [qRow_len, List.length_take, Nat.min_eq_left hn]
theorem qRow_drop (qs : List EntQ) (n : Nat) : (qRow (qs.drop n)).length = (qs.length - n) * 10 := by rw [qRow_len, List.length_drop]
theorem QlM.n1 {g cap : Nat} (h : QlM w base bQ bR (.slice (some ⟨g, 0, none⟩) qs.length cap) qs) (n : Nat) : ∀ W, Below w.heap.size w W → ∀ (j : Nat) (u : Value), (qRow (qs.take n))[j]? = some u → W.cell? ((⟨g, 0, none⟩ : Addr).add j) = some u := fun W hb j u hu => by
  have e : qRow qs = qRow (qs.take n) ++ qRow (qs.drop n) := by rw [← qRow_app, List.take_append_drop]
  have hj := (List.getElem?_eq_some_iff.1 hu).1
  have hu2 : (qRow qs)[j]? = some u := by rw [e, List.getElem?_append_left hj]; exact hu
  have hj2 := (List.getElem?_eq_some_iff.1 hu2).1
  rw [qRow_len] at hj2
  rw [add_at, Nat.zero_add]
  refine cell_kept hb ?_
  rw [h.own.cellAt j (by omega)]
  exact hu2
theorem QlM.n2 {g cap : Nat} (h : QlM w base bQ bR (.slice (some ⟨g, 0, none⟩) qs.length cap) qs) {n : Nat} (hn : n ≤ qs.length) : ∀ W, Below w.heap.size w W → ∀ (j : Nat) (u : Value), (qRow (qs.drop n))[j]? = some u → W.cell? ((⟨g, n * 10, none⟩ : Addr).add j) = some u := fun W hb j u hu => by
  have e : qRow qs = qRow (qs.take n) ++ qRow (qs.drop n) := by rw [← qRow_app, List.take_append_drop]
  have hu2 : (qRow qs)[n * 10 + j]? = some u := by rw [e, List.getElem?_append_right (by rw [qRow_take qs hn]; omega), qRow_take qs hn, Nat.add_sub_cancel_left]; exact hu
  have hj2 := (List.getElem?_eq_some_iff.1 hu2).1
  rw [qRow_len] at hj2
  rw [add_at]
  refine cell_kept hb ?_
  rw [h.own.cellAt (n * 10 + j) (by omega)]
  exact hu2
theorem entQ_one (x : EntQ) : ∀ u ∈ x.cells, u.oneCell' = true := by
  intro u hu
  simp only [EntQ.cells, EntQ.av, TokM.cells, List.mem_cons, List.not_mem_nil, or_false] at hu
  rcases hu with rfl | rfl | rfl | rfl | rfl | rfl | rfl | rfl | rfl | rfl <;> rfl
theorem QlM.anyAttr (h : QlM w base bQ bR v qs) {x : EntQ} (hx : x ∈ qs) : AttrsIn w x.a x.tok.attrs ∧ ∀ b off, x.a = some ⟨b, off, none⟩ → x.tok.attrs ≠ [] → b < base := by
  obtain ⟨i, hi⟩ := List.getElem?_of_mem hx
  exact h.attrs i x hi
set_option maxRecDepth 100000 in
set_option maxHeartbeats 4000000 in
theorem qput_some {g cap : Nat} (h : QlM w base bQ bR (.slice (some ⟨g, 0, none⟩) qs.length cap) qs) (hF : ∀ k, F k ↔ footQ bQ (.slice (some ⟨g, 0, none⟩) qs.length cap) k) (hr : RfK w base bR ks FR) (hl : qs.length < 1000000000000) (id : Int) (t : TokM) (pa : Option Addr) (pc : Nat) (hta : AttrsIn w pa t.attrs) (hlo : ∀ b off, pa = some ⟨b, off, none⟩ → t.attrs ≠ [] → b < base) (he : (elK ks id).isSome = true) (hf : ¬ 0 ≤ findQ qs id) (n : Nat) (hn : n ≤ qs.length) (hne : ¬ cap = n) : Calls Try.prog 31 #[.pointer (some ⟨bQ, 0, none⟩), .int .i64 n, .int .i64 id, .agg (t.cells (.slice pa t.attrs.length pc)).toArray] w fun e w' => e = .returned (.int .i64 0) ∧ UpdQ F w w' base bQ bR (qs.take n ++ ⟨id, t, pa, pc⟩ :: qs.drop n) := by
  have HEL := hide (fun W (hb : Below w.heap.size w W) => (rElement_any (hr.below hb) id).mono (fun e w' (hh : e = .returned (.bool (elK ks id).isSome) ∧ W = w') => hh))
  rw [he] at HEL
  have HFI := hide (fun W (hb : Below w.heap.size w W) => qfind_any (h.below hb) (by omega) id)
  have hfi2 : decide (0 ≤ findQ qs id) = false := by simp; omega
  have hfi3 : ¬ 0 ≤ findQ qs id := hf
  have hcap : qs.length ≤ cap ∧ cap ≤ maxLen := by
    rcases h.own.2 with ⟨e, _⟩ | ⟨g', cap', cur, e, _, _, h1, h2, _⟩
    · cases e
    · cases e; exact ⟨h1, h2⟩
  obtain ⟨t0, t1, t2, t3, t4, t5, t6, t7, ta⟩ := t
  simp only at hta
  simp only [TokM.cells]
  have HQ1 : Hid (∀ w1, w.alloc (.cells #[.int .i64 t0, .string t1, .string t2, .string t3, .int .i64 t4, .bool t5, .int .i32 t6, .bool t7, .slice pa ta.length pc] 37) = w1 → QlM w1 base bQ bR (.slice (some ⟨g, 0, none⟩) qs.length cap) qs ∧ Below w.heap.size w w1 ∧ w1.heap[w.heap.size]? = some (.cells #[.int .i64 t0, .string t1, .string t2, .string t3, .int .i64 t4, .bool t5, .int .i32 t6, .bool t7, .slice pa ta.length pc] 37 (0, 0)) ∧ AttrsIn w1 pa ta) := hide (fun w1 e => by
    subst e
    exact ⟨h.below (below_new _ _), below_new _ _, heap_alloc_new w _, hta.below (below_new _ _)⟩)
  have HFF := hide hF
  have HLO := hide hlo
  obtain ⟨ti, hi0, hz0, hz1, hz2⟩ := info_parts Try.info46
  have c0 := h.cells.1
  have k0 := cell_kept (below_new w (.cells #[.int .i64 t0, .string t1, .string t2, .string t3, .int .i64 t4, .bool t5, .int .i32 t6, .bool t7, .slice pa ta.length pc] 37)) c0
  have HNL := hide hn
  have hiz : (n : Int) ≤ (qs.length : Int) := by omega
  have hig : ¬ (qs.length : Int) < (n : Int) := by omega
  have hig2 : ¬ qs.length < n := by omega
  have hni : ¬ (n : Int) < 0 := by omega
  have hnd : decide ((n : Int) < 0) = false := decide_eq_false hni
  have hnd2 : decide (qs.length < n) = false := decide_eq_false hig2
  have hic : (n : Int) ≤ (cap : Int) := by omega
  have hnc : (qs.length : Int) ≤ (cap : Int) := by omega
  have hcm : (cap : Int) ≤ 9223372036854775807 := by have := hcap.2; unfold maxLen at this; omega
  have HM : Hid (0 + n ≤ maxLen ∧ (0 + n) * 112 ≤ 140737488355328 ∧ 0 + n + 1 ≤ maxLen ∧ (0 + n + 1) * 112 ≤ 140737488355328 ∧ 0 + n + 1 + (qs.length - n) ≤ maxLen ∧ (0 + n + 1 + (qs.length - n)) * 112 ≤ 140737488355328) := hide (by unfold maxLen; omega)
  have HCONV : Hid (∀ (W : World) (b : Nat) (u : Value), W.ownsRow b 46 10 u (0 + n + 1 + (qs.length - n)) (((([] : List Value) ++ qRow (qs.take n)) ++ [.int .i64 id, .int .i64 t0, .string t1, .string t2, .string t3, .int .i64 t4, .bool t5, .int .i32 t6, .bool t7, .slice pa ta.length pc]) ++ qRow (qs.drop n)) → W.ownsRow b 46 10 u (qs.take n ++ (⟨id, ⟨t0, t1, t2, t3, t4, t5, t6, t7, ta⟩, pa, pc⟩ : EntQ) :: qs.drop n).length (qRow (qs.take n ++ (⟨id, ⟨t0, t1, t2, t3, t4, t5, t6, t7, ta⟩, pa, pc⟩ : EntQ) :: qs.drop n))) := hide (fun W b u ho => by
    have e1 : (qs.take n ++ (⟨id, ⟨t0, t1, t2, t3, t4, t5, t6, t7, ta⟩, pa, pc⟩ : EntQ) :: qs.drop n).length = 0 + n + 1 + (qs.length - n) := by rw [List.length_append, List.length_cons, List.length_take, List.length_drop, Nat.min_eq_left hn]; omega
    have e2 : qRow (qs.take n ++ (⟨id, ⟨t0, t1, t2, t3, t4, t5, t6, t7, ta⟩, pa, pc⟩ : EntQ) :: qs.drop n) = ((([] : List Value) ++ qRow (qs.take n)) ++ [.int .i64 id, .int .i64 t0, .string t1, .string t2, .string t3, .int .i64 t4, .bool t5, .int .i32 t6, .bool t7, .slice pa ta.length pc]) ++ qRow (qs.drop n) := by rw [qRow_app]; simp [qRow, EntQ.cells, EntQ.av, TokM.cells]
    rw [e1, e2]; exact ho)
  have HPS : Hid (∀ w1, QlM w1 base bQ bR (.slice (some ⟨g, 0, none⟩) qs.length cap) qs → AttrsIn w1 pa ta → ∀ x ∈ (qs.take n ++ (⟨id, ⟨t0, t1, t2, t3, t4, t5, t6, t7, ta⟩, pa, pc⟩ : EntQ) :: qs.drop n), AttrsIn w1 x.a x.tok.attrs ∧ ∀ b off, x.a = some ⟨b, off, none⟩ → x.tok.attrs ≠ [] → b < base) := hide (fun w1 hq ha x hx => by
    rcases List.mem_append.1 hx with e | e
    · exact hq.anyAttr (List.mem_of_mem_take e)
    · rcases List.mem_cons.1 e with rfl | e
      · exact ⟨ha, hlo⟩
      · exact hq.anyAttr (List.mem_of_mem_drop e))
  clear h hF hr hta hlo he hf c0 hl hcap hn
  generalize findQ qs id = fq at *
  go_enter Try.func31, Try.ntmps31
  go_wp2_with (first
    | (go_at_call 53; refine ((unhide HEL) _ (below_new _ _)).mono ?_; rintro e w1 ⟨rfl, hw⟩; have HQ := hide ((unhide HQ1) w1 hw); rw [hw] at k0; have HW1 := hide hw; clear hw; have k1 := (unhide HQ).1.cells.2.1; have k1a := cell_kept (below_new w1 (.cells #[] 46)) k1)
    | (go_at_call 10; refine ((unhide HFI) _ (unhide HQ).2.1).mono ?_; rintro e w2 ⟨rfl, rfl⟩)
    | (have _x := unhide Q5; clear _x; at_builtin; go_must (refine wpList_append_own _ (by rfl) _ _ 41 (by rfl) w1.heap.size 46 ti _ 10 112 (by kernel_rfl) hi0 hz0 hz1 hz2 rfl (by omega) v2 (0 + n + 1) ((([] : List Value) ++ qRow (qs.take n)) ++ [.int .i64 id, .int .i64 t0, .string t1, .string t2, .string t3, .int .i64 t4, .bool t5, .int .i32 t6, .bool t7, .slice pa ta.length pc]) (by rfl) (unhide Q5) ⟨g, n * 10, none⟩ (qs.length - n) (cap - n) (qRow (qs.drop n)) (by rfl) (qRow_drop _ _) ((unhide HQ).1.n2 (unhide HNL) _ (unhide Q6)) (qRow_one _) (unhide HM).2.2.2.2.1 (unhide HM).2.2.2.2.2 (unhide Q6).size ?_); intro v3 w4 ho3 hg3 _; obtain ⟨va3, vc3, rfl⟩ := own_val ho3; obtain ⟨hu, d1, d2⟩ := (unhide HQ).1.fresh2 (unhide HFF) (grown_more (unhide Q6) (unhide Q7) hg3) ((unhide HCONV) _ _ _ ho3) ((unhide HPS) _ (unhide HQ).1 (unhide HQ).2.2.2); have HU := hide hu; clear hu; clear ho3 hg3)
    | (have _x := unhide Q1; clear _x; at_builtin; go_must (refine wpList_append_own _ (by rfl) _ _ 41 (by rfl) w1.heap.size 46 ti _ 10 112 (by kernel_rfl) hi0 hz0 hz1 hz2 rfl (by omega) v1 (0 + n) (([] : List Value) ++ qRow (qs.take n)) (by rfl) ((unhide Q1).alloc _) ⟨w2.heap.size, 0, none⟩ 1 1 [.int .i64 id, .int .i64 t0, .string t1, .string t2, .string t3, .int .i64 t4, .bool t5, .int .i32 t6, .bool t7, .slice pa ta.length pc] (by rfl) (by rfl) (World.news_of_block (w := w2.alloc (.cells [.int .i64 id, .int .i64 t0, .string t1, .string t2, .string t3, .int .i64 t4, .bool t5, .int .i32 t6, .bool t7, .slice pa ta.length pc].toArray 46)) (B := w2.heap.size) (t := 46) (fr := (0, 0)) (heap_alloc_new w2 _)) (by simp [Value.oneCell']) (unhide HM).2.2.1 (unhide HM).2.2.2.1 (Nat.le_trans (unhide Q3).size (below_new w2 _).size) ?_); intro v2 w3 ho2 hg2 _; have Q5 := hide ho2; have Q6 := hide (grown_more ((unhide Q3).trans ((below_new w2 (.cells #[.int .i64 id, .int .i64 t0, .string t1, .string t2, .string t3, .int .i64 t4, .bool t5, .int .i32 t6, .bool t7, .slice pa ta.length pc] 46)).mono (unhide Q3).size)) (unhide Q4) hg2); have Q7 := hide (fun k (hk : v2.ownBlock = some k) => (ho2.lt k hk).1); have k1c := cell_kept (unhide Q6) (unhide HQ).1.cells.2.1; have k0c := cell_kept (unhide Q6) (unhide HQ).1.cells.1; clear ho2 hg2)
    | (at_builtin; go_must (refine wpList_append_own _ (by rfl) _ _ 41 (by rfl) w1.heap.size 46 ti _ 10 112 (by kernel_rfl) hi0 hz0 hz1 hz2 rfl (by omega) (.slice (some ⟨w1.heap.size, 0, none⟩) 0 0) 0 ([] : List Value) (by rfl) (empty_own w1) ⟨g, 0, none⟩ n cap (qRow (qs.take n)) (by rfl) (qRow_take _ (unhide HNL)) ((unhide HQ).1.n1 _ _ (below_new _ _)) (qRow_one _) (unhide HM).1 (unhide HM).2.1 (below_new _ _).size ?_); intro v1 w2 ho1 hg1 _; have Q1 := hide ho1; have Q3 := hide (grown_new hg1); have Q4 := hide (fun k (hk : v1.ownBlock = some k) => (ho1.lt k hk).1); obtain ⟨z0, z1, z2, z3, z4, z5, z6, z7, z8, _⟩ := nine (kept_oldK (unhide HQ).2.2.1 (unhide Q3)); have k1b := cell_kept (unhide Q3) (unhide HQ).1.cells.2.1; clear ho1 hg1))
  go_ret
  have h9 := unhide HU
  simp only [Nat.zero_add] at h9
  exact ⟨rfl, UpdQ.after (unhide HQ).2.1 h9⟩
set_option maxRecDepth 100000 in
set_option maxHeartbeats 4000000 in
theorem qput_full {g cap : Nat} (h : QlM w base bQ bR (.slice (some ⟨g, 0, none⟩) qs.length cap) qs) (hF : ∀ k, F k ↔ footQ bQ (.slice (some ⟨g, 0, none⟩) qs.length cap) k) (hr : RfK w base bR ks FR) (hl : qs.length < 1000000000000) (id : Int) (t : TokM) (pa : Option Addr) (pc : Nat) (hta : AttrsIn w pa t.attrs) (hlo : ∀ b off, pa = some ⟨b, off, none⟩ → t.attrs ≠ [] → b < base) (he : (elK ks id).isSome = true) (hf : ¬ 0 ≤ findQ qs id) (n : Nat) (hn : n = qs.length) (hne : cap = n) : Calls Try.prog 31 #[.pointer (some ⟨bQ, 0, none⟩), .int .i64 n, .int .i64 id, .agg (t.cells (.slice pa t.attrs.length pc)).toArray] w fun e w' => e = .returned (.int .i64 0) ∧ UpdQ F w w' base bQ bR (qs ++ [⟨id, t, pa, pc⟩]) := by
  have HEL := hide (fun W (hb : Below w.heap.size w W) => (rElement_any (hr.below hb) id).mono (fun e w' (hh : e = .returned (.bool (elK ks id).isSome) ∧ W = w') => hh))
  rw [he] at HEL
  have HFI := hide (fun W (hb : Below w.heap.size w W) => qfind_any (h.below hb) (by omega) id)
  have hfi2 : decide (0 ≤ findQ qs id) = false := by simp; omega
  have hfi3 : ¬ 0 ≤ findQ qs id := hf
  have hcap : qs.length ≤ cap ∧ cap ≤ maxLen := by
    rcases h.own.2 with ⟨e, _⟩ | ⟨g', cap', cur, e, _, _, h1, h2, _⟩
    · cases e
    · cases e; exact ⟨h1, h2⟩
  have hq : qs.length = cap := by omega
  rw [hq] at h hF
  obtain ⟨t0, t1, t2, t3, t4, t5, t6, t7, ta⟩ := t
  simp only at hta
  simp only [TokM.cells]
  have HQ1 : Hid (∀ w1, w.alloc (.cells #[.int .i64 t0, .string t1, .string t2, .string t3, .int .i64 t4, .bool t5, .int .i32 t6, .bool t7, .slice pa ta.length pc] 37) = w1 → QlM w1 base bQ bR (.slice (some ⟨g, 0, none⟩) cap cap) qs ∧ Below w.heap.size w w1 ∧ w1.heap[w.heap.size]? = some (.cells #[.int .i64 t0, .string t1, .string t2, .string t3, .int .i64 t4, .bool t5, .int .i32 t6, .bool t7, .slice pa ta.length pc] 37 (0, 0)) ∧ AttrsIn w1 pa ta) := hide (fun w1 e => by
    subst e
    exact ⟨h.below (below_new _ _), below_new _ _, heap_alloc_new w _, hta.below (below_new _ _)⟩)
  have HFF := hide hF
  have HLO := hide hlo
  obtain ⟨ti, hi0, hz0, hz1, hz2⟩ := info_parts Try.info46
  have c0 := h.cells.1
  have k0 := cell_kept (below_new w (.cells #[.int .i64 t0, .string t1, .string t2, .string t3, .int .i64 t4, .bool t5, .int .i32 t6, .bool t7, .slice pa ta.length pc] 37)) c0
  subst hne
  have hn0 := hn
  have hni : ¬ (cap : Int) < 0 := by omega
  have hnd : decide ((cap : Int) < 0) = false := decide_eq_false hni
  have HNL : Hid (cap ≤ qs.length) := hide (by omega)
  have HM : Hid (0 + cap ≤ maxLen ∧ (0 + cap) * 112 ≤ 140737488355328 ∧ 0 + cap + 1 ≤ maxLen ∧ (0 + cap + 1) * 112 ≤ 140737488355328 ∧ 0 + cap + 1 + 0 ≤ maxLen ∧ (0 + cap + 1 + 0) * 112 ≤ 140737488355328) := hide (by unfold maxLen; omega)
  have hcm : (cap : Int) ≤ 9223372036854775807 := by have := hcap.2; unfold maxLen at this; omega
  have HCONV : Hid (∀ (W : World) (b : Nat) (u : Value), W.ownsRow b 46 10 u (0 + cap + 1 + 0) (((([] : List Value) ++ qRow (qs.take cap)) ++ [.int .i64 id, .int .i64 t0, .string t1, .string t2, .string t3, .int .i64 t4, .bool t5, .int .i32 t6, .bool t7, .slice pa ta.length pc]) ++ []) → W.ownsRow b 46 10 u (qs ++ [(⟨id, ⟨t0, t1, t2, t3, t4, t5, t6, t7, ta⟩, pa, pc⟩ : EntQ)]).length (qRow (qs ++ [(⟨id, ⟨t0, t1, t2, t3, t4, t5, t6, t7, ta⟩, pa, pc⟩ : EntQ)]))) := hide (fun W b u ho => by
    have e1 : (qs ++ [(⟨id, ⟨t0, t1, t2, t3, t4, t5, t6, t7, ta⟩, pa, pc⟩ : EntQ)]).length = 0 + cap + 1 + 0 := by rw [List.length_append, List.length_singleton]; omega
    have e2 : qRow (qs ++ [(⟨id, ⟨t0, t1, t2, t3, t4, t5, t6, t7, ta⟩, pa, pc⟩ : EntQ)]) = ((([] : List Value) ++ qRow (qs.take cap)) ++ [.int .i64 id, .int .i64 t0, .string t1, .string t2, .string t3, .int .i64 t4, .bool t5, .int .i32 t6, .bool t7, .slice pa ta.length pc]) ++ [] := by rw [qRow_app, List.take_of_length_le (by omega)]; simp [qRow, EntQ.cells, EntQ.av, TokM.cells]
    rw [e1, e2]; exact ho)
  have HN1 : Hid (∀ w1, QlM w1 base bQ bR (.slice (some ⟨g, 0, none⟩) cap cap) qs → ∀ W, Below w1.heap.size w1 W → ∀ (j : Nat) (u : Value), (qRow (qs.take cap))[j]? = some u → W.cell? ((⟨g, 0, none⟩ : Addr).add j) = some u) := hide (fun w1 hh => QlM.n1 (cap := cap) (by rw [hq]; exact hh) cap)
  have HPS : Hid (∀ w1, QlM w1 base bQ bR (.slice (some ⟨g, 0, none⟩) cap cap) qs → AttrsIn w1 pa ta → ∀ x ∈ (qs ++ [(⟨id, ⟨t0, t1, t2, t3, t4, t5, t6, t7, ta⟩, pa, pc⟩ : EntQ)]), AttrsIn w1 x.a x.tok.attrs ∧ ∀ b off, x.a = some ⟨b, off, none⟩ → x.tok.attrs ≠ [] → b < base) := hide (fun w1 hq ha x hx => by
    rcases List.mem_append.1 hx with e | e
    · exact hq.anyAttr e
    · simp at e; subst e
      exact ⟨ha, hlo⟩)
  clear h hF hr hta hlo he hf c0 hl hcap hn hn0 hq
  generalize findQ qs id = fq at *
  go_enter Try.func31, Try.ntmps31
  go_wp2_with (first
    | (go_at_call 53; refine ((unhide HEL) _ (below_new _ _)).mono ?_; rintro e w1 ⟨rfl, hw⟩; have HQ := hide ((unhide HQ1) w1 hw); rw [hw] at k0; have HW1 := hide hw; clear hw; have k1 := (unhide HQ).1.cells.2.1; have k1a := cell_kept (below_new w1 (.cells #[] 46)) k1)
    | (go_at_call 10; refine ((unhide HFI) _ (unhide HQ).2.1).mono ?_; rintro e w2 ⟨rfl, rfl⟩)
    | (have _x := unhide Q5; clear _x; at_builtin; go_must (refine wpList_append_own _ (by rfl) _ _ 41 (by rfl) w1.heap.size 46 ti _ 10 112 (by kernel_rfl) hi0 hz0 hz1 hz2 rfl (by omega) v2 (0 + cap + 1) ((([] : List Value) ++ qRow (qs.take cap)) ++ [.int .i64 id, .int .i64 t0, .string t1, .string t2, .string t3, .int .i64 t4, .bool t5, .int .i32 t6, .bool t7, .slice pa ta.length pc]) (by rfl) (unhide Q5) _ 0 _ ([] : List Value) (by rfl) (by rfl) (fun j u hj => by simp at hj) (fun u hu => by simp at hu) (unhide HM).2.2.2.2.1 (unhide HM).2.2.2.2.2 (unhide Q6).size ?_); intro v3 w4 ho3 hg3 _; obtain ⟨va3, vc3, rfl⟩ := own_val ho3; obtain ⟨hu, d1, d2⟩ := (unhide HQ).1.fresh2 (unhide HFF) (grown_more (unhide Q6) (unhide Q7) hg3) ((unhide HCONV) _ _ _ ho3) ((unhide HPS) _ (unhide HQ).1 (unhide HQ).2.2.2); have HU := hide hu; clear hu; clear ho3 hg3)
    | (have _x := unhide Q1; clear _x; at_builtin; go_must (refine wpList_append_own _ (by rfl) _ _ 41 (by rfl) w1.heap.size 46 ti _ 10 112 (by kernel_rfl) hi0 hz0 hz1 hz2 rfl (by omega) v1 (0 + cap) (([] : List Value) ++ qRow (qs.take cap)) (by rfl) ((unhide Q1).alloc _) ⟨w2.heap.size, 0, none⟩ 1 1 [.int .i64 id, .int .i64 t0, .string t1, .string t2, .string t3, .int .i64 t4, .bool t5, .int .i32 t6, .bool t7, .slice pa ta.length pc] (by rfl) (by rfl) (World.news_of_block (w := w2.alloc (.cells [.int .i64 id, .int .i64 t0, .string t1, .string t2, .string t3, .int .i64 t4, .bool t5, .int .i32 t6, .bool t7, .slice pa ta.length pc].toArray 46)) (B := w2.heap.size) (t := 46) (fr := (0, 0)) (heap_alloc_new w2 _)) (by simp [Value.oneCell']) (unhide HM).2.2.1 (unhide HM).2.2.2.1 (Nat.le_trans (unhide Q3).size (below_new w2 _).size) ?_); intro v2 w3 ho2 hg2 _; have Q5 := hide ho2; have Q6 := hide (grown_more ((unhide Q3).trans ((below_new w2 (.cells #[.int .i64 id, .int .i64 t0, .string t1, .string t2, .string t3, .int .i64 t4, .bool t5, .int .i32 t6, .bool t7, .slice pa ta.length pc] 46)).mono (unhide Q3).size)) (unhide Q4) hg2); have Q7 := hide (fun k (hk : v2.ownBlock = some k) => (ho2.lt k hk).1); have k1c := cell_kept (unhide Q6) (unhide HQ).1.cells.2.1; have k0c := cell_kept (unhide Q6) (unhide HQ).1.cells.1; clear ho2 hg2)
    | (at_builtin; go_must (refine wpList_append_own _ (by rfl) _ _ 41 (by rfl) w1.heap.size 46 ti _ 10 112 (by kernel_rfl) hi0 hz0 hz1 hz2 rfl (by omega) (.slice (some ⟨w1.heap.size, 0, none⟩) 0 0) 0 ([] : List Value) (by rfl) (empty_own w1) ⟨g, 0, none⟩ cap cap (qRow (qs.take cap)) (by rfl) (qRow_take _ (unhide HNL)) ((unhide HN1) _ (unhide HQ).1 _ (below_new _ _)) (qRow_one _) (unhide HM).1 (unhide HM).2.1 (below_new _ _).size ?_); intro v1 w2 ho1 hg1 _; have Q1 := hide ho1; have Q3 := hide (grown_new hg1); have Q4 := hide (fun k (hk : v1.ownBlock = some k) => (ho1.lt k hk).1); obtain ⟨z0, z1, z2, z3, z4, z5, z6, z7, z8, _⟩ := nine (kept_oldK (unhide HQ).2.2.1 (unhide Q3)); have k1b := cell_kept (unhide Q3) (unhide HQ).1.cells.2.1; clear ho1 hg1))
  go_ret
  have h9 := unhide HU
  simp only [Nat.zero_add, Nat.add_zero] at h9
  exact ⟨rfl, UpdQ.after (unhide HQ).2.1 h9⟩
set_option maxRecDepth 100000 in
set_option maxHeartbeats 4000000 in
theorem qput_none (h : QlM w base bQ bR (.slice none 0 0) []) (hF : ∀ k, F k ↔ footQ bQ (.slice none 0 0) k) (hr : RfK w base bR ks FR) (id : Int) (t : TokM) (pa : Option Addr) (pc : Nat) (hta : AttrsIn w pa t.attrs) (hlo : ∀ b off, pa = some ⟨b, off, none⟩ → t.attrs ≠ [] → b < base) (he : (elK ks id).isSome = true) (hf : ¬ 0 ≤ findQ [] id) : Calls Try.prog 31 #[.pointer (some ⟨bQ, 0, none⟩), .int .i64 0, .int .i64 id, .agg (t.cells (.slice pa t.attrs.length pc)).toArray] w fun e w' => e = .returned (.int .i64 0) ∧ UpdQ F w w' base bQ bR [⟨id, t, pa, pc⟩] := by
  have HEL := hide (fun W (hb : Below w.heap.size w W) => (rElement_any (hr.below hb) id).mono (fun e w' (hh : e = .returned (.bool (elK ks id).isSome) ∧ W = w') => hh))
  rw [he] at HEL
  have HFI := hide (fun W (hb : Below w.heap.size w W) => qfind_any (h.below hb) (by simp) id)
  have hfi2 : decide (0 ≤ findQ ([] : List EntQ) id) = false := by simp; omega
  have hfi3 : ¬ 0 ≤ findQ ([] : List EntQ) id := hf
  obtain ⟨t0, t1, t2, t3, t4, t5, t6, t7, ta⟩ := t
  simp only at hta
  simp only [TokM.cells]
  have HQ1 : Hid (∀ w1, w.alloc (.cells #[.int .i64 t0, .string t1, .string t2, .string t3, .int .i64 t4, .bool t5, .int .i32 t6, .bool t7, .slice pa ta.length pc] 37) = w1 → QlM w1 base bQ bR (.slice none 0 0) ([] : List EntQ) ∧ Below w.heap.size w w1 ∧ w1.heap[w.heap.size]? = some (.cells #[.int .i64 t0, .string t1, .string t2, .string t3, .int .i64 t4, .bool t5, .int .i32 t6, .bool t7, .slice pa ta.length pc] 37 (0, 0)) ∧ AttrsIn w1 pa ta) := hide (fun w1 e => by
    subst e
    exact ⟨h.below (below_new _ _), below_new _ _, heap_alloc_new w _, hta.below (below_new _ _)⟩)
  have HFF := hide hF
  have HLO := hide hlo
  obtain ⟨ti, hi0, hz0, hz1, hz2⟩ := info_parts Try.info46
  have c0 := h.cells.1
  have k0 := cell_kept (below_new w (.cells #[.int .i64 t0, .string t1, .string t2, .string t3, .int .i64 t4, .bool t5, .int .i32 t6, .bool t7, .slice pa ta.length pc] 37)) c0
  have HCONV : Hid (∀ (W : World) (b : Nat) (u : Value), W.ownsRow b 46 10 u (0 + 1) (([] : List Value) ++ [.int .i64 id, .int .i64 t0, .string t1, .string t2, .string t3, .int .i64 t4, .bool t5, .int .i32 t6, .bool t7, .slice pa ta.length pc]) → W.ownsRow b 46 10 u [(⟨id, ⟨t0, t1, t2, t3, t4, t5, t6, t7, ta⟩, pa, pc⟩ : EntQ)].length (qRow [(⟨id, ⟨t0, t1, t2, t3, t4, t5, t6, t7, ta⟩, pa, pc⟩ : EntQ)])) := hide (fun W b u ho => by
    have e2 : qRow [(⟨id, ⟨t0, t1, t2, t3, t4, t5, t6, t7, ta⟩, pa, pc⟩ : EntQ)] = ([] : List Value) ++ [.int .i64 id, .int .i64 t0, .string t1, .string t2, .string t3, .int .i64 t4, .bool t5, .int .i32 t6, .bool t7, .slice pa ta.length pc] := by simp [qRow, EntQ.cells, EntQ.av, TokM.cells]
    rw [e2]; exact ho)
  have HPS : Hid (∀ w1, QlM w1 base bQ bR (.slice none 0 0) ([] : List EntQ) → AttrsIn w1 pa ta → ∀ x ∈ [(⟨id, ⟨t0, t1, t2, t3, t4, t5, t6, t7, ta⟩, pa, pc⟩ : EntQ)], AttrsIn w1 x.a x.tok.attrs ∧ ∀ b off, x.a = some ⟨b, off, none⟩ → x.tok.attrs ≠ [] → b < base) := hide (fun w1 hq ha x hx => by
    simp at hx; subst hx
    exact ⟨ha, hlo⟩)
  clear h hF hr hta hlo he hf c0
  generalize findQ ([] : List EntQ) id = fq at *
  go_enter Try.func31, Try.ntmps31
  have HNW : Hid (∀ (w1 : World) (j : Nat) (u : Value), [.int .i64 id, .int .i64 t0, .string t1, .string t2, .string t3, .int .i64 t4, .bool t5, .int .i32 t6, .bool t7, .slice pa ta.length pc][j]? = some u → ((w1.alloc (.cells #[] 46)).alloc (.cells [.int .i64 id, .int .i64 t0, .string t1, .string t2, .string t3, .int .i64 t4, .bool t5, .int .i32 t6, .bool t7, .slice pa ta.length pc].toArray 46)).cell? ((⟨w1.heap.size + 1, 0, none⟩ : Addr).add j) = some u) := hide (fun w1 => World.news_of_block (w := (w1.alloc (.cells #[] 46)).alloc (.cells [.int .i64 id, .int .i64 t0, .string t1, .string t2, .string t3, .int .i64 t4, .bool t5, .int .i32 t6, .bool t7, .slice pa ta.length pc].toArray 46)) (B := w1.heap.size + 1) (t := 46) (fr := (0, 0)) (by have := heap_alloc_new (w1.alloc (.cells #[] 46)) (.cells [.int .i64 id, .int .i64 t0, .string t1, .string t2, .string t3, .int .i64 t4, .bool t5, .int .i32 t6, .bool t7, .slice pa ta.length pc].toArray 46); rw [show (w1.alloc (.cells #[] 46)).heap.size = w1.heap.size + 1 by simp] at this; exact this))
  go_wp2_with (first
    | (go_at_call 53; refine ((unhide HEL) _ (below_new _ _)).mono ?_; rintro e w1 ⟨rfl, hw⟩; have HQ := hide ((unhide HQ1) w1 hw); rw [hw] at k0; have HW1 := hide hw; clear hw; have k1 := (unhide HQ).1.cells.2.1; have k1a := cell_kept (below_new w1 (.cells #[] 46)) k1; obtain ⟨z0, z1, z2, z3, z4, z5, z6, z7, z8, _⟩ := nine (kept_oldK (unhide HQ).2.2.1 (below_new w1 (.cells #[] 46))))
    | (go_at_call 10; refine ((unhide HFI) _ (unhide HQ).2.1).mono ?_; rintro e w2 ⟨rfl, rfl⟩)
    | (have _x := unhide MK2; clear _x; at_builtin; go_must (refine wpList_append_own_none (by rfl) _ _ 41 (by rfl) w1.heap.size 46 ti 10 (by kernel_rfl) hi0 v2 (0 + 1) (([] : List Value) ++ [.int .i64 id, .int .i64 t0, .string t1, .string t2, .string t3, .int .i64 t4, .bool t5, .int .i32 t6, .bool t7, .slice pa ta.length pc]) (by rfl) (unhide MK2) (by rfl) ?_); have ho3 := unhide MK2; obtain ⟨va3, vc3, rfl⟩ := own_val ho3; obtain ⟨hu, d1, d2⟩ := (unhide HQ).1.fresh2 (unhide HFF) (unhide Q6) ((unhide HCONV) _ _ _ ho3) ((unhide HPS) _ (unhide HQ).1 (unhide HQ).2.2.2); have HU := hide hu; clear hu; clear ho3)
    | (have _x := unhide MK1; clear _x; at_builtin; go_must (refine wpList_append_own _ (by rfl) _ _ 41 (by rfl) w1.heap.size 46 ti _ 10 112 (by kernel_rfl) hi0 hz0 hz1 hz2 rfl (by omega) (.slice (some ⟨w1.heap.size, 0, none⟩) 0 0) 0 ([] : List Value) (by rfl) ((empty_own w1).alloc _) ⟨w1.heap.size + 1, 0, none⟩ 1 1 [.int .i64 id, .int .i64 t0, .string t1, .string t2, .string t3, .int .i64 t4, .bool t5, .int .i32 t6, .bool t7, .slice pa ta.length pc] (by rfl) (by rfl) ((unhide HNW) w1) (by simp [Value.oneCell']) (by unfold maxLen; omega) (by omega) (Nat.le_trans (below_new w1 (.cells #[] 46)).size (below_new (w1.alloc (.cells #[] 46)) _).size) ?_); intro v2 w3 ho2 hg2 _; have Q6 := hide (grown_more ((below_new w1 (.cells #[] 46)).trans ((below_new (w1.alloc (.cells #[] 46)) (.cells #[.int .i64 id, .int .i64 t0, .string t1, .string t2, .string t3, .int .i64 t4, .bool t5, .int .i32 t6, .bool t7, .slice pa ta.length pc] 46)).mono (below_new w1 (.cells #[] 46)).size)) (fun k hk => ((empty_own w1).lt k hk).1) hg2); have k1c := cell_kept (unhide Q6) (unhide HQ).1.cells.2.1; have k0c := cell_kept (unhide Q6) (unhide HQ).1.cells.1; have MK2 := hide ho2; clear ho2 hg2)
    | (at_builtin; go_must (refine wpList_append_own_none (by rfl) _ _ 41 (by rfl) w1.heap.size 46 ti 10 (by kernel_rfl) hi0 (.slice (some ⟨w1.heap.size, 0, none⟩) 0 0) 0 ([] : List Value) (by rfl) (empty_own w1) (by rfl) ?_); have MK1 := hide trivial))
  go_ret
  have h9 := unhide HU
  simp only [Nat.zero_add] at h9
  exact ⟨rfl, UpdQ.after (unhide HQ).2.1 h9⟩
end
end Go.Proofs.Ytabdgmcajndgbaa
