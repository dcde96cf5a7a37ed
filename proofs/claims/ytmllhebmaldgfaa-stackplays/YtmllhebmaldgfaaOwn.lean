import Derived.Test.YtmllhebmaldgfaaLong
import Derived.Shelf.Abstract
/-
  The place of an attribute; whether one of a list is too long; a list of its own (ownAttrs), by a law for copy at elements of several cells.
-/
namespace Go.Proofs.Ytmllhebmaldgfaa
open Go.RowKit

theorem enters117 : ∀ args w, (callFunc 117 args).run Try.prog w = .ok (.enter 117 args) w := enters_of Try.func117 (by kernel_rfl) rfl
theorem enters116 : ∀ args w, (callFunc 116 args).run Try.prog w = .ok (.enter 116 args) w := enters_of Try.func116 (by kernel_rfl) rfl

theorem hide {p : Prop} (h : p) : Hid p := h
theorem unhide {p : Prop} (h : Hid p) : p := h

theorem idxM_nonneg {p : AttrM → Bool} {l : List AttrM} : decide (0 ≤ idxM p l) = l.any p := by
  unfold idxM
  cases h : l.findIdx? p with
  | none =>
    have h' := h
    rw [List.findIdx?_eq_none_iff] at h'
    simp
    intro x hx; simpa using h' x hx
  | some i =>
    have h' := h
    rw [List.findIdx?_eq_some_iff_getElem] at h'
    obtain ⟨hi, hp, _⟩ := h'
    have : l.any p = true := List.any_eq_true.2 ⟨l[i], List.getElem_mem hi, hp⟩
    rw [this]; simp

theorem anyLongAttr_any (w : World) (a : Option Addr) (cap : Nat) (l : List AttrM) (hl : AttrsIn w a l) (hn : l.length ≤ maxLen) :
    Calls Try.prog 78 #[.slice a l.length cap] w fun e w' => e = .returned (.bool (l.any AttrM.long)) ∧ Below w.heap.size w w' := by
  have hc := indexFunc_any 117 #[] enters117 AttrM.long w (fun x w1 _ => isLongAttr_any x w1) a cap l hl hn
  have HC := hide hc
  rw [← idxM_nonneg]
  clear hc hl
  go_enter Try.func78, Try.ntmps78
  go_wp2_with (first | (go_at_call 129; refine (unhide HC).mono ?_; rintro e w' ⟨rfl, hb⟩) | go_in)
  go_ret
  exact ⟨rfl, hb⟩

/-- copy at elements of several cells, into a row of the call's own, as many elements as it has. -/
theorem wpList_copy_full {P : Program} {w : World} {ops : Array Oper} {rest : List Oper} {o : Oper} {a : Act} {Q : Exit → Act → World → Prop} (hgd : o.guard = none) (d s : Operand) (dT sT : TypeId)
    (ho : o.op = .call { callee := .builtin .copy, args := #[d, s], argTypes := #[dT, sT] }) (base elem size : Nat) (hu : P.underlying dT = some (.slice elem)) (hsz : (P.info? elem).map (·.size) = some size)
    (g n cap : Nat) (xs : List Value) (ad : Addr) (sCap : Nat) (hd : a.eval d = .slice (some ⟨g, 0, none⟩) n cap) (hs : a.eval s = .slice (some ad) n sCap)
    (hown : w.ownsRow base elem size (.slice (some ⟨g, 0, none⟩) n cap) n xs) (cs : List Value) (hn : cs.length = n * size)
    (hsrc : ∀ j v, cs[j]? = some v → w.cell? (ad.add j) = some v) (h1 : ∀ v ∈ cs, v.oneCell' = true)
    (h : ∀ w', w'.ownsRow base elem size (.slice (some ⟨g, 0, none⟩) n cap) n cs → w.grownBy w' (some g) → wpList P ops Q rest (a.put o.dst (goInt n)) w') : wpList P ops Q (o :: rest) a w := by
  refine wpList_plain hgd fun K hK => ?_
  rcases hown.2 with ⟨h', _⟩ | ⟨g', cap', cur, h', hb, hg, hnc, hcm, hcs, htake⟩
  · simp at h'
  simp only [Value.slice.injEq, Option.some.injEq, Addr.mk.injEq, and_true, true_and] at h'
  obtain ⟨rfl, rfl⟩ := h'
  cases hq : P.info? elem with
  | none => simp [hq] at hsz
  | some i =>
    have hi : i.size = size := by simpa [hq] using hsz
    have hle : n * size ≤ cap * size := Nat.mul_le_mul_right _ hnc
    have hf := run_firstCells_some (P := P) w size n ad n sCap cs hn hsrc
    have hst := run_storeCells_at P g 0 elem cs 0 cur w hg (by rw [hn, hcs]; simpa using hle) h1
    have hrun : (Builtin.copy_ #[dT, sT] o.type #[.slice (some ⟨g, 0, none⟩) n cap, .slice (some ad) n sCap]).run P w = .ok (goInt n) (w.setRow g (cs ++ cur.toList.drop cs.length).toArray) := by
      simp [Builtin.copy_, run_underlying hu, Builtin.lenOf, sizeOf, typeInfo, hq, hi, hf]
      simp at hst
      rw [hst]; simp
    have hfin := h (w.setRow g (cs ++ cur.toList.drop cs.length).toArray)
      ⟨hn, .inr ⟨g, cap, _, rfl, hb, setRow_heap w g cur _ elem _ hg, hnc, hcm, by simp [hn, hcs]; omega, by rw [← hn]; exact List.take_left⟩⟩
      ⟨rfl, rfl, rfl, by simp, fun k _ hk => setRow_other w g k _ (fun e => hk (by simp [e]))⟩
    unfold Oper.wp
    simp [execOp, ho, resolve, invoke, builtin, hd, hs, hrun, Result.andThen]
    exact hK _ _ hfin

theorem Try.info137 : (Try.prog.info? 137).map (fun i => (i.zero, i.size, i.bytes)) = some (some (.agg #[.int .i64 0, .string ⟨#[]⟩, .string ⟨#[]⟩, .string ⟨#[]⟩]), 4, 56) := by kernel_rfl
theorem Try.size137 : (Try.prog.info? 137).map (·.size) = some 4 := by kernel_rfl

theorem attrs_oneCell (l : List AttrM) : ∀ u ∈ attrRow l, u.oneCell' = true := by
  intro u hu
  simp only [attrRow, List.mem_flatMap] at hu
  obtain ⟨x, _, hx⟩ := hu
  simp [AttrM.cells] at hx
  rcases hx with rfl | rfl | rfl | rfl <;> rfl

theorem AttrsIn.row {w : World} {b off : Nat} {l : List AttrM} (h : AttrsIn w (some ⟨b, off, none⟩) l) : ∀ j v, (attrRow l)[j]? = some v → w.cell? ((⟨b, off, none⟩ : Addr).add j) = some v := by
  intro j v hv
  have hadd : (⟨b, off, none⟩ : Addr).add j = ⟨b, off + j, none⟩ := by unfold Addr.add; split <;> simp_all
  rw [hadd]
  have hlen : (attrRow l).length = l.length * 4 := flat_len AttrM.cells 4 attr_len l
  have hj : j < l.length * 4 := by have := (List.getElem?_eq_some_iff.1 hv).1; omega
  obtain ⟨i, r, rfl, hr⟩ : ∃ i r, j = i * 4 + r ∧ r < 4 := ⟨j / 4, j % 4, by omega, by omega⟩
  have hi : i < l.length := by omega
  have hx : l[i]? = some l[i] := List.getElem?_eq_getElem hi
  rw [attrRow, flat_get AttrM.cells 4 attr_len l i r hr, hx] at hv
  obtain ⟨b', off', e, c0, c1, c2, c3⟩ := h.cells i l[i] hx
  simp only [Option.some.injEq, Addr.mk.injEq, and_true] at e
  obtain ⟨rfl, rfl⟩ := e
  match r, hr with
  | 0, _ => simp [AttrM.cells] at hv; subst hv; simpa using c0
  | 1, _ => simp [AttrM.cells] at hv; subst hv; exact c1
  | 2, _ => simp [AttrM.cells] at hv; subst hv; exact c2
  | 3, _ => simp [AttrM.cells] at hv; subst hv; exact c3

theorem Addr.of_lt {w : World} {a : Option Addr} {l : List AttrM} (h : AttrsIn w a l) (hl : 0 < l.length) : ∃ b off, a = some ⟨b, off, none⟩ := by
  obtain ⟨b, off, e, _⟩ := h.cells 0 l[0] (List.getElem?_eq_getElem hl)
  exact ⟨b, off, e⟩

set_option maxHeartbeats 400000 in
/-- A list of its own: new memory, nil if it is empty. -/
theorem ownAttrs_any (w : World) (base : Nat) (hbase : base ≤ w.heap.size) (a : Option Addr) (cap : Nat) (l : List AttrM) (hl : AttrsIn w a l) (hn : l.length ≤ 1024) :
    Calls Try.prog 62 #[.slice a l.length cap] w fun e w' => ∃ ao cp, e = .returned (.slice ao l.length cp) ∧ w'.ownsRow base 137 4 (.slice ao l.length cp) l.length (attrRow l) ∧ Below w.heap.size w w' ∧ (∀ k, (Value.slice ao l.length cp).ownBlock = some k → w.heap.size ≤ k) := by
  by_cases h0 : l.length = 0
  · have hnil : l = [] := List.eq_nil_of_length_eq_zero h0
    subst hnil
    clear h0
    go_enter Try.func62, Try.ntmps62
    go_wp2
    go_ret
    exact ⟨none, 0, rfl, World.ownsRow_nil _ _ _ _, Below.refl _ _, fun k hk => by simp [Value.ownBlock] at hk⟩
  · obtain ⟨b, off, rfl⟩ := Addr.of_lt hl (by omega)
    have hrow := hl.row
    have hlen : (attrRow l).length = l.length * 4 := flat_len AttrM.cells 4 attr_len l
    obtain ⟨i0, hi, hz0, hz1, hz2⟩ := info_parts Try.info137
    have h0' : ((l.length : Int) == 0) = false := beq_eq_false_iff_ne.2 (by omega)
    have HR := hide hrow
    have HL := hide hlen
    clear hrow hlen hl
    go_enter Try.func62, Try.ntmps62
    go_wp2_with (first
      | (at_make; go_must (refine wpList_make_full _ rfl _ _ 42 rfl base 137 i0 _ 4 Try.underlying42 hi hz0 hz1 _ _ _ _ l.length rfl rfl rfl rfl (by rw [hz2]; omega) (by unfold maxLen; omega) hbase ?_); intro w1 hown1 hgrow1)
      | (refine wpList_copy_full rfl _ _ 42 42 rfl base 137 4 Try.underlying42 Try.size137 _ l.length l.length _ ⟨b, off, none⟩ cap rfl rfl hown1 (attrRow l) (unhide HL) (fun j v hv => (hgrow1.cell ((unhide HR) j v hv) (by simp))) (attrs_oneCell l) ?_; intro w2 hown2 hgrow2))
    go_ret
    refine ⟨_, _, rfl, hown2, ?_, fun k hk => by simp [Value.ownBlock] at hk; omega⟩
    exact ((Below.refl _ w).grown hgrow1 (Nat.le_refl _) (by simp)).grown hgrow2 hgrow1.size (fun k hk => by simp at hk; omega)
end Go.Proofs.Ytmllhebmaldgfaa
