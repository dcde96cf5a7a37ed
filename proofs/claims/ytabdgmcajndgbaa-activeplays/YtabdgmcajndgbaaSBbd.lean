/-
  The document's list: the last entry goes. The document's list: Push and Remove. The document's list: the last element of HTML of a name behind the last marker.
-/
import Derived.Test.YtabdgmcajndgbaaSBbb
import Derived.Test.YtabdgmcajndgbaaSBbc
namespace Go.Proofs.Ytabdgmcajndgbaa
open Go.RowKit Go.Sort

section
variable {w : World} {base bQ bR : Nat} {v : Value} {qs : List EntQ} {F : Nat → Prop}
set_option maxRecDepth 100000 in
set_option maxHeartbeats 4000000 in
theorem qremove_end (h : QlM w base bQ bR v qs) (hF : ∀ k, F k ↔ footQ bQ v k) (hl : qs.length < 1000000000000) (i : Nat) (hi : i + 1 = qs.length) : Calls Try.prog 55 #[.pointer (some ⟨bQ, 0, none⟩), .int .i64 i] w fun e w' => e = .returned (.tuple #[]) ∧ UpdQ F w w' base bQ bR (qs.take i) := by
  have HTI : Hid (qs.take i ++ qs.drop (i + 1) = qs.take i) := hide (by rw [List.drop_eq_nil_of_le (by omega), List.append_nil])
  obtain ⟨c0, c1, f1⟩ := h.cells
  have hlt := lt_of_block h.box
  obtain ⟨g, cap, rfl⟩ : ∃ g cap, v = .slice (some ⟨g, 0, none⟩) qs.length cap := by
    rcases h.val with ⟨_, h0⟩ | h0
    · rw [h0] at hi; simp at hi
    · exact h0
  have hcap : qs.length ≤ cap ∧ cap ≤ maxLen := by
    rcases h.own.2 with ⟨e, _⟩ | ⟨g', cap', cur, e, _, _, h1, h2, _⟩
    · cases e
    · cases e; exact ⟨h1, h2⟩
  have HCELL : Hid (∀ W, Below w.heap.size w W → ∀ (j : Nat) (u : Value), (qRow qs)[j]? = some u → W.cell? ⟨g, j, none⟩ = some u) := hide (fun W hb j u hu => by
    have hj := (List.getElem?_eq_some_iff.1 hu).1
    rw [qRow_len] at hj
    refine cell_kept hb ?_
    rw [h.own.cellAt j (by omega)]
    exact hu)
  have HSP : Hid (qRow qs = qRow (qs.take i) ++ qRow (qs.drop i) ∧ qRow qs = qRow (qs.take (i + 1)) ++ qRow (qs.drop (i + 1)) ∧ (qRow (qs.take i)).length = i * 10 ∧ (qRow (qs.take (i + 1))).length = (i + 1) * 10 ∧ (qRow (qs.drop (i + 1))).length = (qs.length - (i + 1)) * 10) := hide ⟨by rw [← qRow_app, List.take_append_drop], by rw [← qRow_app, List.take_append_drop], by rw [qRow_len, List.length_take]; congr 1; omega, by rw [qRow_len, List.length_take]; congr 1; omega, by rw [qRow_len, List.length_drop]⟩
  have HN1 : Hid (∀ W, Below w.heap.size w W → ∀ (j : Nat) (u : Value), (qRow (qs.take i))[j]? = some u → W.cell? ((⟨g, 0, none⟩ : Addr).add j) = some u) := hide (fun W hb j u hu => by
    have := (unhide HCELL) W hb j u (by rw [(unhide HSP).1]; rw [List.getElem?_append_left (List.getElem?_eq_some_iff.1 hu).1]; exact hu)
    rw [add_at, Nat.zero_add]
    exact this)
  have HN2 : Hid (∀ W, Below w.heap.size w W → ∀ (j : Nat) (u : Value), (qRow (qs.drop (i + 1)))[j]? = some u → W.cell? ((⟨g, (i + 1) * 10, none⟩ : Addr).add j) = some u) := hide (fun W hb j u hu => by
    have := (unhide HCELL) W hb ((i + 1) * 10 + j) u (by rw [(unhide HSP).2.1, List.getElem?_append_right (by rw [(unhide HSP).2.2.2.1]; omega), (unhide HSP).2.2.2.1, Nat.add_sub_cancel_left]; exact hu)
    rw [add_at]
    exact this)
  have HKEEP : Hid (∀ W, Below w.heap.size w W → W.cell? ⟨bQ, 1, none⟩ = some (.slice (some ⟨g, 0, none⟩) qs.length cap)) := hide (fun W hb => cell_kept hb c1)
  have HFIN : Hid (∀ (w2 : World) (v2 : Value), Below w.heap.size w w2 → w2.ownsRow w.heap.size 46 10 v2 (0 + i + 0) ((([] : List Value) ++ qRow (qs.take i)) ++ []) → UpdQ F w (w2.setCell ⟨bQ, 1, none⟩ v2) base bQ bR (qs.take i ++ qs.drop (i + 1)) ∧ w2.frozen? ⟨bQ, 1, none⟩ = false ∧ w2.cell? ⟨bQ, 1, none⟩ = some (.slice (some ⟨g, 0, none⟩) qs.length cap)) := hide (fun w2 v2 hb ho => by
    refine h.fresh hF hb ?_ ?_
    · rw [unhide HTI, List.length_take, Nat.min_eq_left (by omega)]
      rw [List.nil_append, List.append_nil, Nat.zero_add, Nat.add_zero] at ho
      exact ho
    · intro x hx
      rcases List.mem_append.1 hx with e | e
      · exact List.mem_of_mem_take e
      · exact List.mem_of_mem_drop e)
  obtain ⟨ti, hi0, hz0, hz1, hz2⟩ := info_parts Try.info46
  have HB0 := hide (Nat.le_refl w.heap.size)
  have hiz : (i : Int) ≤ (qs.length : Int) := by omega
  have hic : (i : Int) ≤ (cap : Int) := by omega
  have hiz1 : (i : Int) + 1 ≤ (qs.length : Int) := by omega
  have hnc : (qs.length : Int) ≤ (cap : Int) := by omega
  have hcm : (cap : Int) ≤ 9223372036854775807 := by have := hcap.2; unfold maxLen at this; omega
  have hw1 : IntKind.i64.wrap ((i : Int) + 1) = (i : Int) + 1 := by rw [IntKind.wrap_i64]; omega
  have HM : Hid (0 + i ≤ maxLen ∧ (0 + i) * 112 ≤ 140737488355328 ∧ 0 + i + 0 ≤ maxLen ∧ (0 + i + 0) * 112 ≤ 140737488355328) := hide (by unfold maxLen; omega)
  clear h hF hl hcap f1 hlt
  generalize qs.length = n at *
  have c1a := (unhide HKEEP) _ (below_new w (.cells #[] 46))
  have HEO := hide (empty_own w)
  by_cases hne : cap = i + 1
  · obtain rfl : cap = n := by omega
    clear hne
    go_enter Try.func55, Try.ntmps55
    go_wp2_with (first
      | (have _x := unhide Q1; clear _x; at_builtin; go_must (refine wpList_append_own _ (by rfl) _ _ 41 (by rfl) w.heap.size 46 ti _ 10 112 (by kernel_rfl) hi0 hz0 hz1 hz2 rfl (by omega) v1 (0 + i) (([] : List Value) ++ qRow (qs.take i)) (by rfl) (unhide Q1) _ 0 _ ([] : List Value) (by rfl) (by rfl) (fun j u hj => by simp at hj) (fun u hu => by simp at hu) (unhide HM).2.2.1 (unhide HM).2.2.2 (unhide Q3).size ?_); intro v2 w2 ho2 hg2 _; obtain ⟨va2, vc2, rfl⟩ := own_val ho2; obtain ⟨hu, d1, d2⟩ := (unhide HFIN) w2 _ (grown_more (unhide Q3) (unhide Q4) hg2) ho2; have HU := hide hu; clear ho2 hg2 hu)
      | (at_builtin; go_must (refine wpList_append_own _ (by rfl) _ _ 41 (by rfl) w.heap.size 46 ti _ 10 112 (by kernel_rfl) hi0 hz0 hz1 hz2 rfl (by omega) (.slice (some ⟨w.heap.size, 0, none⟩) 0 0) 0 ([] : List Value) (by rfl) (unhide HEO) ⟨g, 0, none⟩ i cap (qRow (qs.take i)) (by rfl) (unhide HSP).2.2.1 ((unhide HN1) _ (below_new _ _)) (qRow_one _) (unhide HM).1 (unhide HM).2.1 (below_new _ _).size ?_); intro v1 w1 ho1 hg1 _; have Q1 := hide ho1; have Q3 := hide (grown_new hg1); have Q4 := hide (fun k (hk : v1.ownBlock = some k) => (ho1.lt k hk).1); have c1b := (unhide HKEEP) _ (unhide Q3); clear ho1 hg1))
    have h9 := unhide HU
    rw [Nat.zero_add] at h9
    rw [unhide HTI] at h9
    exact ⟨rfl, _, results_none rfl _ _ _, rfl, h9⟩
  · go_enter Try.func55, Try.ntmps55
    go_wp2_with (first
      | (have _x := unhide Q1; clear _x; at_builtin; go_must (refine wpList_append_own _ (by rfl) _ _ 41 (by rfl) w.heap.size 46 ti _ 10 112 (by kernel_rfl) hi0 hz0 hz1 hz2 rfl (by omega) v1 (0 + i) (([] : List Value) ++ qRow (qs.take i)) (by rfl) (unhide Q1) _ 0 _ ([] : List Value) (by rfl) (by rfl) (fun j u hj => by simp at hj) (fun u hu => by simp at hu) (unhide HM).2.2.1 (unhide HM).2.2.2 (unhide Q3).size ?_); intro v2 w2 ho2 hg2 _; obtain ⟨va2, vc2, rfl⟩ := own_val ho2; obtain ⟨hu, d1, d2⟩ := (unhide HFIN) w2 _ (grown_more (unhide Q3) (unhide Q4) hg2) ho2; have HU := hide hu; clear ho2 hg2 hu)
      | (at_builtin; go_must (refine wpList_append_own _ (by rfl) _ _ 41 (by rfl) w.heap.size 46 ti _ 10 112 (by kernel_rfl) hi0 hz0 hz1 hz2 rfl (by omega) (.slice (some ⟨w.heap.size, 0, none⟩) 0 0) 0 ([] : List Value) (by rfl) (unhide HEO) ⟨g, 0, none⟩ i cap (qRow (qs.take i)) (by rfl) (unhide HSP).2.2.1 ((unhide HN1) _ (below_new _ _)) (qRow_one _) (unhide HM).1 (unhide HM).2.1 (below_new _ _).size ?_); intro v1 w1 ho1 hg1 _; have Q1 := hide ho1; have Q3 := hide (grown_new hg1); have Q4 := hide (fun k (hk : v1.ownBlock = some k) => (ho1.lt k hk).1); have c1b := (unhide HKEEP) _ (unhide Q3); clear ho1 hg1))
    have h9 := unhide HU
    rw [Nat.zero_add] at h9
    rw [unhide HTI] at h9
    exact ⟨rfl, _, results_none rfl _ _ _, rfl, h9⟩
end
end Go.Proofs.Ytabdgmcajndgbaa

namespace Go.Proofs.Ytabdgmcajndgbaa
open Go.RowKit Go.Sort

section
variable {w : World} {base bQ bR : Nat} {v : Value} {qs : List EntQ} {ks : List Key} {F FR : Nat → Prop}
theorem QlM.same (h : QlM w base bQ bR v qs) (hF : ∀ k, F k ↔ footQ bQ v k) {w' : World} (hb : Below w.heap.size w w') : UpdQ F w w' base bQ bR qs := ⟨F, ⟨v, h.below hb, hF⟩, Mod.of_below hb, fun _ hk => .inl hk⟩
set_option maxHeartbeats 2000000 in
theorem qpush_any (h : QlM w base bQ bR v qs) (hF : ∀ k, F k ↔ footQ bQ v k) (hr : RfK w base bR ks FR) (hl : qs.length < 1000000000000) (hok : QOk ks qs) (id : Int) (t : TokM) (pa : Option Addr) (pc : Nat) (hta : AttrsIn w pa t.attrs) (hlo : ∀ b off, pa = some ⟨b, off, none⟩ → t.attrs ≠ [] → b < base) (hln : t.attrs.length ≤ 2513169434916) : Calls Try.prog 21 #[.pointer (some ⟨bQ, 0, none⟩), .int .i64 id, .agg (t.cells (.slice pa t.attrs.length pc)).toArray] w fun e w' => e = .returned (.int .i64 (pushR ks qs id)) ∧ UpdQ F w w' base bQ bR (pushQ ks qs id t pa pc) := by
  unfold pushQ
  cases he : (elK ks id).isSome with
  | false =>
    have e6 : pushR ks qs id = 6 := by unfold pushR; rw [he]; rfl
    rw [e6, if_neg (by decide)]
    have HEL := hide (fun W (hb : Below w.heap.size w W) => rElement_any (hr.below hb) id)
    rw [he] at HEL
    have HS := hide (fun w' (hb : Below w.heap.size w w') => h.same hF hb)
    have c0 := h.cells.1
    obtain ⟨t0, t1, t2, t3, t4, t5, t6, t7, ta⟩ := t
    simp only at hta hln
    simp only [TokM.cells]
    have k0 := cell_kept (below_new w (.cells #[.int .i64 t0, .string t1, .string t2, .string t3, .int .i64 t4, .bool t5, .int .i32 t6, .bool t7, .slice pa ta.length pc] 37)) c0
    clear h hF hr hl hok hta hlo hln he e6
    go_enter Try.func21, Try.ntmps21
    go_wp2_with (first
      | (go_at_call 53; refine ((unhide HEL) _ (below_new  _ _)).mono ?_; rintro e w1 ⟨rfl, rfl⟩))
    go_ret
    exact ⟨rfl, (unhide HS) _ (below_new  _ _)⟩
  | true =>
    by_cases hf : 0 ≤ findQ qs id
    · have e1 : pushR ks qs id = 1 := by unfold pushR; rw [he, if_pos rfl, if_pos hf]
      rw [e1, if_neg (by decide)]
      have HEL := hide (fun W (hb : Below w.heap.size w W) => rElement_any (hr.below hb) id)
      rw [he] at HEL
      have HFI := hide (fun W (hb : Below w.heap.size w W) => qfind_any (h.below hb) (by omega) id)
      have HS := hide (fun w' (hb : Below w.heap.size w w') => h.same hF hb)
      have c0 := h.cells.1
      obtain ⟨t0, t1, t2, t3, t4, t5, t6, t7, ta⟩ := t
      simp only at hta hln
      simp only [TokM.cells]
      have k0 := cell_kept (below_new w (.cells #[.int .i64 t0, .string t1, .string t2, .string t3, .int .i64 t4, .bool t5, .int .i32 t6, .bool t7, .slice pa ta.length pc] 37)) c0
      clear h hF hr hl hok hta hlo hln he e1
      generalize findQ qs id = fq at *
      go_enter Try.func21, Try.ntmps21
      go_wp2_with (first
        | (go_at_call 53; refine ((unhide HEL) _ (below_new  _ _)).mono ?_; rintro e w1 ⟨rfl, rfl⟩)
        | (go_at_call 10; refine ((unhide HFI) _ (below_new  _ _)).mono ?_; rintro e w2 ⟨rfl, rfl⟩))
      go_ret
      exact ⟨rfl, (unhide HS) _ (below_new  _ _)⟩
    · have e0 : pushR ks qs id = 0 := by unfold pushR; rw [he, if_pos rfl, if_neg hf]
      rw [e0, if_pos rfl]
      exact qpush_in h hF hr hl hok id t pa pc hta hlo hln he (by omega)
theorem backQ_lt (ns : List Int) (id : Int) : ∀ n, -1 ≤ backQ ns id n ∧ backQ ns id n < (n : Int)
  | 0 => by unfold backQ; omega
  | n + 1 => by
    have := backQ_lt ns id n
    unfold backQ
    split <;> omega
theorem findQ_lt (qs : List EntQ) (id : Int) : -1 ≤ findQ qs id ∧ findQ qs id < max 0 (qs.length : Int) := by
  have := backQ_lt (qs.map (·.node)) id qs.length
  unfold findQ
  split <;> omega
def remR (qs : List EntQ) (id : Int) : Int := if 0 ≤ findQ qs id then 0 else 6
def remQ (qs : List EntQ) (id : Int) : List EntQ := if 0 ≤ findQ qs id then qs.take (findQ qs id).toNat ++ qs.drop ((findQ qs id).toNat + 1) else qs
theorem qremove_at (h : QlM w base bQ bR v qs) (hF : ∀ k, F k ↔ footQ bQ v k) (hl : qs.length < 1000000000000) (i : Nat) (hi : i < qs.length) : Calls Try.prog 55 #[.pointer (some ⟨bQ, 0, none⟩), .int .i64 i] w fun e w' => e = .returned (.tuple #[]) ∧ UpdQ F w w' base bQ bR (qs.take i ++ qs.drop (i + 1)) := by
  by_cases h1 : i + 1 < qs.length
  · exact qremove_in h hF hl i h1
  · have e : qs.take i ++ qs.drop (i + 1) = qs.take i := by rw [List.drop_eq_nil_of_le (by omega), List.append_nil]
    rw [e]
    exact qremove_end h hF hl i (by omega)
set_option maxHeartbeats 2000000 in
theorem qrem_any (h : QlM w base bQ bR v qs) (hF : ∀ k, F k ↔ footQ bQ v k) (hl : qs.length < 1000000000000) (id : Int) : Calls Try.prog 29 #[.pointer (some ⟨bQ, 0, none⟩), .int .i64 id] w fun e w' => e = .returned (.int .i64 (remR qs id)) ∧ UpdQ F w w' base bQ bR (remQ qs id) := by
  have HFI := hide (qfind_any h hl id)
  have HS := hide (h.same hF (Below.refl _ w))
  have hb := findQ_lt qs id
  unfold remR remQ
  by_cases hf : 0 ≤ findQ qs id
  · obtain ⟨i, hi⟩ : ∃ i : Nat, findQ qs id = (i : Int) := ⟨(findQ qs id).toNat, by omega⟩
    rw [hi] at hb hf HFI ⊢
    rw [if_pos (by omega), if_pos (by omega)]
    have HRM := hide (qremove_at h hF hl i (by omega))
    have hn : ¬ (i : Int) < 0 := by omega
    have e0 : ((i : Int)).toNat = i := rfl
    rw [e0]
    clear h hF hl hb hf hi e0 HS
    generalize qs.take i ++ qs.drop (i + 1) = ps at *
    go_enter Try.func29, Try.ntmps29
    go_wp2_with (first
      | (go_at_call 10; refine (unhide HFI).mono ?_; rintro e w1 ⟨rfl, rfl⟩)
      | (go_at_call 55; refine (unhide HRM).mono ?_; rintro e w2 ⟨rfl, hu⟩; have HU := hide hu; clear hu))
    go_ret
    exact ⟨rfl, unhide HU⟩
  · rw [if_neg hf, if_neg hf]
    have hn : findQ qs id < 0 := by omega
    generalize findQ qs id = fq at *
    clear h hF hl hb hf
    go_enter Try.func29, Try.ntmps29
    go_wp2_with (first
      | (go_at_call 10; refine (unhide HFI).mono ?_; rintro e w1 ⟨rfl, rfl⟩))
    go_ret
    exact ⟨rfl, unhide HS⟩
end
end Go.Proofs.Ytabdgmcajndgbaa

namespace Go.Proofs.Ytabdgmcajndgbaa
open Go.RowKit Go.Sort

/-- What was made behind w. -/
structure Eb (w W : World) : Prop where
  low : Below w.heap.size w W
section
variable {w W W' : World}
theorem Eb.start (w : World) : Eb w w := ⟨Below.refl _ _⟩
theorem Eb.more (h : Eb w W) (hb : Below W.heap.size W W') : Eb w W' := ⟨h.low.trans (hb.mono h.low.size)⟩
theorem Eb.alloc (h : Eb w W) (o : Obj) : Eb w (W.alloc o) := h.more (below_new _ _)
theorem Eb.drew (h : Eb w W) : Eb w W.drew := h.more (Below.refl _ _).drew
theorem Eb.put1 (h : Eb w W) (b j : Nat) (v : Value) (hb : w.heap.size ≤ b) : Eb w (W.setCell ⟨b, j, none⟩ v) := by
  have hm : Mod (fun k => k = b) W (W.setCell ⟨b, j, none⟩ v) := Mod.setCell _ _ _ rfl
  exact ⟨h.low.trans (hm.below h.low.size (fun k e => by subst e; exact hb))⟩
end
def lastQ (ks : List Key) (nm : ByteArray) (qs : List EntQ) : Nat → Int
  | 0 => -1
  | i + 1 => match qs[i]? with
    | none => -1
    | some y => if y.node = -1 then -1 else match keyAt ks y.node with
      | none => -1
      | some q => if (q.space == 0 && q.name.toList == nm.toList) = true then y.node else lastQ ks nm qs i
section
variable {w : World} {base bQ bR : Nat} {v : Value} {qs : List EntQ} {ks : List Key} {F FR : Nat → Prop}
set_option maxRecDepth 100000 in
set_option maxHeartbeats 4000000 in
theorem qlast_any (h : QlM w base bQ bR v qs) (hr : RfK w base bR ks FR) (hl : qs.length < 1000000000000) (hok : QOk ks qs) (nm : ByteArray) : Calls Try.prog 27 #[.pointer (some ⟨bQ, 0, none⟩), .string nm] w fun e w' => e = .returned (.int .i64 (lastQ ks nm qs qs.length)) ∧ Below w.heap.size w w' := by
  obtain ⟨r, hr0⟩ : ∃ r, lastQ ks nm qs qs.length = r := ⟨_, rfl⟩
  rw [hr0]
  have HR := hide hr0
  obtain ⟨c0, c1, _⟩ := h.cells
  obtain ⟨va, vc, rfl⟩ := h.len
  have HKC := hide (fun W (hb : Below w.heap.size w W) => And.intro (cell_kept hb c0) (cell_kept hb c1))
  have HH := hide h
  have HRR := hide hr
  have HOK := hide hok
  have hz : (qs.length : Int) < 1000000000000 := by omega
  clear h hr hl hok hr0
  go_enter Try.func27, Try.ntmps27
  go_wp2
  go_loopg [5] qs.length (fun g s5 wr => s5 = .int .i64 ((g : Int) - 1) ∧ g ≤ qs.length ∧ Below w.heap.size w wr ∧ lastQ ks nm qs g = r)
  case atStart => exact ⟨rfl, Nat.le_refl _, Below.refl _ _, unhide HR⟩
  case round =>
    obtain ⟨rfl, hg, hb, hsc⟩ := hrel
    clear c0 c1 HR
    have HB := hide hb
    obtain ⟨k0, k1⟩ := (unhide HKC) _ hb
    cases gk with
    | zero =>
      unfold lastQ at hsc
      subst hsc
      clear hb hg
      go_wp2
      go_ret
      exact ⟨rfl, unhide HB⟩
    | succ n =>
      obtain ⟨y, hy⟩ : ∃ y, qs[n]? = some y := ⟨_, List.getElem?_eq_getElem (by omega)⟩
      have hyo := ((unhide HOK) y (List.mem_of_getElem? hy)).2
      obtain ⟨g, cap, hv, hc⟩ := ((unhide HH).below hb).at hy
      simp only [Value.slice.injEq] at hv
      obtain ⟨rfl, _, rfl⟩ := hv
      have q0 := hc 0 (by omega)
      simp only [EntQ.cells, List.getElem?_cons_zero, Nat.add_zero] at q0
      have e1 : (((n + 1 : Nat) : Int) - 1) = (n : Int) := by omega
      rw [e1]
      have hnz : (n : Int) < (qs.length : Int) := by omega
      have hn0 : (0 : Int) ≤ (n : Int) := by omega
      unfold lastQ at hsc
      rw [hy] at hsc
      simp only at hsc
      have HG := hide hg
      clear hc hg
      by_cases hy1 : y.node = -1
      · rw [if_pos hy1] at hsc
        subst hsc
        have hy2 : (y.node != -1) = false := by simpa using hy1
        have HYY := hide hy1
        clear hb hy hyo hy1
        generalize y.node = yn at *
        go_wp2
        go_ret
        exact ⟨rfl, unhide HB⟩
      · rw [if_neg hy1] at hsc
        have hy2 : (y.node != -1) = true := by simpa using hy1
        obtain ⟨p, hp⟩ : ∃ p, keyAt ks y.node = some p := by
          rcases hyo with e | e
          · exact absurd e hy1
          · exact Option.isSome_iff_exists.1 e
        rw [hp] at hsc
        simp only at hsc
        obtain ⟨i, hyi, hpi⟩ := keyAt_some hp
        rw [hyi] at q0 hy2 hsc
        obtain ⟨ga, gcap, _, _, r1, a1, n1, k1', e2, m1, d1, rfl, rfl, cR, hi, x0, x1, x2, x3, x4, x5, x6, x7, x8, x9⟩ := ((unhide HRR).below hb).open hpi
        have hmost := (unhide HRR).most
        have hiz : (i : Int) < (ks.length : Int) := by omega
        have hmz : (ks.length : Int) ≤ 32768 := by omega
        obtain ⟨pk, ps, pn⟩ := p
        simp only at *
        have HWB := hide (Eb.start wr)
        have HSS : Hid (∀ W', Eb wr W' → W'.cell? ⟨bQ, 0, none⟩ = some (.pointer (some ⟨bR, 0, none⟩)) ∧ W'.cell? ⟨bQ, 1, none⟩ = some (.slice (some ⟨g, 0, none⟩) qs.length vc) ∧ W'.cell? ⟨g, n * 10, none⟩ = some (.int .i64 (i : Int)) ∧ W'.cell? ⟨bR, 0, none⟩ = some (.slice (some ⟨ga, 0, none⟩) ks.length gcap) ∧ W'.cell? ⟨ga, i * 10, none⟩ = some (.int .i64 pk) ∧ W'.cell? ⟨ga, i * 10 + 1, none⟩ = some (.int .i64 ps) ∧ W'.cell? ⟨ga, i * 10 + 2, none⟩ = some (.string pn) ∧ W'.cell? ⟨ga, i * 10 + 3, none⟩ = some (.slice a1 n1 k1') ∧ W'.cell? ⟨ga, i * 10 + 4, none⟩ = some (.string r1.data) ∧ W'.cell? ⟨ga, i * 10 + 5, none⟩ = some (.string r1.system) ∧ W'.cell? ⟨ga, i * 10 + 6, none⟩ = some (.int .i64 r1.inner) ∧ W'.cell? ⟨ga, i * 10 + 7, none⟩ = some (.int .i64 r1.host) ∧ W'.cell? ⟨ga, i * 10 + 8, none⟩ = some (.int .i64 r1.up) ∧ W'.cell? ⟨ga, i * 10 + 9, none⟩ = some (.slice e2 m1 d1)) := hide (fun W' h => ⟨cell_kept h.low k0, cell_kept h.low k1, cell_kept h.low q0, cell_kept h.low cR, cell_kept h.low x0, cell_kept h.low x1, cell_kept h.low x2, cell_kept h.low x3, cell_kept h.low x4, cell_kept h.low x5, cell_kept h.low x6, cell_kept h.low x7, cell_kept h.low x8, cell_kept h.low x9⟩)
        have HYI := hide hyi
        have HSC := hide hsc
        clear hb hy hyo hy1 hp hpi hmost hi hyi hsc
        generalize hkl : ks.length = kn at *
        clear hkl
        go_wp2
        go_region_held3 (fun W' => W'.cell? ⟨bQ, 0, none⟩ = some (.pointer (some ⟨bR, 0, none⟩)) ∧ W'.cell? ⟨bQ, 1, none⟩ = some (.slice (some ⟨g, 0, none⟩) qs.length vc) ∧ W'.cell? ⟨g, n * 10, none⟩ = some (.int .i64 (i : Int)) ∧ W'.cell? ⟨bR, 0, none⟩ = some (.slice (some ⟨ga, 0, none⟩) kn gcap) ∧ W'.cell? ⟨ga, i * 10, none⟩ = some (.int .i64 pk) ∧ W'.cell? ⟨ga, i * 10 + 1, none⟩ = some (.int .i64 ps) ∧ W'.cell? ⟨ga, i * 10 + 2, none⟩ = some (.string pn) ∧ W'.cell? ⟨ga, i * 10 + 3, none⟩ = some (.slice a1 n1 k1') ∧ W'.cell? ⟨ga, i * 10 + 4, none⟩ = some (.string r1.data) ∧ W'.cell? ⟨ga, i * 10 + 5, none⟩ = some (.string r1.system) ∧ W'.cell? ⟨ga, i * 10 + 6, none⟩ = some (.int .i64 r1.inner) ∧ W'.cell? ⟨ga, i * 10 + 7, none⟩ = some (.int .i64 r1.host) ∧ W'.cell? ⟨ga, i * 10 + 8, none⟩ = some (.int .i64 r1.up) ∧ W'.cell? ⟨ga, i * 10 + 9, none⟩ = some (.slice e2 m1 d1)) ((refine (unhide HSS) _ ?_; repeat' (with_reducible (first | exact unhide HWB | apply Eb.alloc | apply Eb.drew | (refine Eb.put1 ?_ _ _ _ (Nat.le_refl _)))))) (skip)
        have HWB1 := hide ((unhide HWB).alloc (.cells #[.int .i64 pk, .int .i64 ps, .string pn, .slice a1 n1 k1', .string r1.data, .string r1.system, .int .i64 r1.inner, .int .i64 r1.host, .int .i64 r1.up, .slice e2 m1 d1] 98)).drew
        have hb1 := kept_oldK (heap_alloc_new wr (.cells #[.int .i64 pk, .int .i64 ps, .string pn, .slice a1 n1 k1', .string r1.data, .string r1.system, .int .i64 r1.inner, .int .i64 r1.host, .int .i64 r1.up, .slice e2 m1 d1] 98)) (Below.refl _ _).drew
        generalize (wr.alloc (.cells #[.int .i64 pk, .int .i64 ps, .string pn, .slice a1 n1 k1', .string r1.data, .string r1.system, .int .i64 r1.inner, .int .i64 r1.host, .int .i64 r1.up, .slice e2 m1 d1] 98)).drew = W1 at *
        have o1 := cell_of_row _ _ 1 _ _ _ hb1
        have o2 := cell_of_row _ _ 2 _ _ _ hb1
        clear k0 k1 q0 cR x0 x1 x2 x3 x4 x5 x6 x7 x8 x9 hb1
        obtain ⟨k0, k1, q0, _⟩ := (unhide HSS) _ (unhide HWB1)
        have HW1 := hide ((unhide HB).trans ((unhide HWB1).low.mono (unhide HB).size))
        clear HSS
        cases hsp : (ps == 0) with
        | false =>
          have hsc := unhide HSC
          rw [hsp, Bool.false_and, if_neg (by decide)] at hsc
          have HS2 := hide hsc
          clear hsc HSC
          go_wp2
          go_roundg n
          case measure => exact Nat.lt_succ_self _
          case rel => exact ⟨rfl, by have := unhide HG; omega, unhide HW1, unhide HS2⟩
        | true =>
          cases hnm : (pn.toList == nm.toList) with
          | false =>
            have hsc := unhide HSC
            rw [hsp, hnm, Bool.and_false, if_neg (by decide)] at hsc
            have HS2 := hide hsc
            clear hsc HSC
            go_wp2
            go_roundg n
            case measure => exact Nat.lt_succ_self _
            case rel => exact ⟨rfl, by have := unhide HG; omega, unhide HW1, unhide HS2⟩
          | true =>
            have hsc := unhide HSC
            rw [hsp, hnm, Bool.and_true, if_pos rfl] at hsc
            have HS2 := hide hsc
            clear hsc HSC
            go_wp2
            go_ret
            exact ⟨by rw [← unhide HS2]; rfl, unhide HW1⟩
end
end Go.Proofs.Ytabdgmcajndgbaa
