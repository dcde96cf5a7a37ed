/-
  Package active: a list of attributes of one's own; sorted. slices.Compact at attributes.
-/
import Derived.Test.YtmkdnmkckipnaaaGreatSBba
import Derived.Shelf.SlSortCmp.NoneTotal
import Derived.BigQuiet
import Derived.Deep.QuietTactic
import Derived.Deep.LoopGhost
import Derived.Lib.SliceRun
namespace Go.Proofs.YtmkdnmkckipnaaaGreat
open Go.RowKit Go.Sort Go.Shelf

/-- A block that holds these attributes and nothing else. -/
def RowT (w : World) (g : Nat) (l : List AttrM) : Prop := w.heap[g]? = some (.cells (attrRow l).toArray 146 (0, 0))
theorem attrRow_len (l : List AttrM) : (attrRow l).length = l.length * 4 := flat_len AttrM.cells 4 attr_len l
theorem attrRow_get (l : List AttrM) (i j : Nat) (hj : j < 4) : (attrRow l)[i * 4 + j]? = (l[i]?).bind fun x => x.cells[j]? := flat_get AttrM.cells 4 attr_len l i j hj

section
variable {w w' : World} {g : Nat} {l : List AttrM}
theorem RowT.lt (h : RowT w g l) : g < w.heap.size := lt_of_block h
theorem RowT.below (h : RowT w g l) (hb : Below w.heap.size w w') : RowT w' g l := (hb.block g h.lt).trans h
theorem RowT.mod {F : Nat → Prop} (h : RowT w g l) (hm : Mod F w w') (hF : ¬ F g) : RowT w' g l := (hm.block g h.lt hF).trans h
theorem RowT.cell (h : RowT w g l) {i : Nat} {x : AttrM} (hi : l[i]? = some x) (j : Nat) (hj : j < 4) : w.cell? ⟨g, i * 4 + j, none⟩ = x.cells[j]? := by
  rw [cell_of_row w g _ _ _ _ h, List.getElem?_toArray, attrRow_get l i j hj, hi]; rfl
theorem RowT.four (h : RowT w g l) {i : Nat} {x : AttrM} (hi : l[i]? = some x) : w.cell? ⟨g, i * 4, none⟩ = some (.int .i64 x.space) ∧ w.cell? ⟨g, i * 4 + 1, none⟩ = some (.string x.pre) ∧ w.cell? ⟨g, i * 4 + 2, none⟩ = some (.string x.name) ∧ w.cell? ⟨g, i * 4 + 3, none⟩ = some (.string x.val) :=
  ⟨h.cell hi 0 (by omega), h.cell hi 1 (by omega), h.cell hi 2 (by omega), h.cell hi 3 (by omega)⟩
theorem RowT.attrs (h : RowT w g l) : AttrsIn w (some ⟨g, 0, none⟩) l := ⟨fun i x hi => by
  obtain ⟨c0, c1, c2, c3⟩ := h.four hi
  exact ⟨g, 0, rfl, by rw [Nat.zero_add]; exact c0, by rw [Nat.zero_add]; exact c1, by rw [Nat.zero_add]; exact c2, by rw [Nat.zero_add]; exact c3⟩⟩
theorem RowT.frozen (h : RowT w g l) (j : Nat) : w.frozen? ⟨g, j, none⟩ = false := by
  unfold RowT at h
  simp [World.frozen?, h]
theorem AttrsIn.modA {F : Nat → Prop} {a : Option Addr} (h : AttrsIn w a l) (hm : Mod F w w') (hF : ∀ b off, a = some ⟨b, off, none⟩ → ¬ F b) : AttrsIn w' a l := by
  refine ⟨fun i x hi => ?_⟩
  obtain ⟨b, off, e, c0, c1, c2, c3⟩ := h.cells i x hi
  have hb := hm.block b (World.block_lt_of_cell? w _ c0) (hF b off e)
  exact ⟨b, off, e, (World.cell?_of_block hb).trans c0, (World.cell?_of_block hb).trans c1, (World.cell?_of_block hb).trans c2, (World.cell?_of_block hb).trans c3⟩
end

def encA (x : AttrM) : List Value := x.cells

theorem RowT.of_owns {w : World} {base g n : Nat} {l : List AttrM} (h : w.ownsRow base 146 4 (.slice (some ⟨g, 0, none⟩) n n) n (attrRow l)) : RowT w g l := by
  rcases h.2 with ⟨h', _⟩ | ⟨g', cap', cur, h', hb, hg, hnc, hcm, hcs, htake⟩
  · simp at h'
  · simp only [Value.slice.injEq, Option.some.injEq, Addr.mk.injEq, and_true, true_and] at h'
    obtain ⟨rfl, rfl⟩ := h'
    have e : cur = (attrRow l).toArray := by
      rw [← htake, List.take_of_length_le (by simp [hcs])]
    rw [e] at hg
    exact hg

set_option maxHeartbeats 400000 in
/-- A list of its own: new memory, nil if it is empty. -/
theorem ownA_any (w : World) (a : Option Addr) (cap : Nat) (l : List AttrM) (hl : AttrsIn w a l) (hn : l.length ≤ 2513169434916) :
    Calls Tryz.prog 108 #[.slice a l.length cap] w fun e w' => (l = [] ∧ e = .returned (.slice none 0 0) ∧ w' = w) ∨ (0 < l.length ∧ e = .returned (.slice (some ⟨w.heap.size, 0, none⟩) l.length l.length) ∧ RowT w' w.heap.size l ∧ Below w.heap.size w w') := by
  by_cases h0 : l.length = 0
  · have hnil : l = [] := List.eq_nil_of_length_eq_zero h0
    subst hnil
    clear h0
    go_enter Tryz.func108, Tryz.ntmps108
    go_wp2
    go_ret
    exact .inl ⟨trivial, rfl, rfl⟩
  · obtain ⟨b, off, rfl⟩ := Addr.of_lt hl (by omega)
    have hrow := hl.row
    have hlen := attrRow_len l
    obtain ⟨i0, hi, hz0, hz1, hz2⟩ := info_parts Tryz.info146
    have h0' : ((l.length : Int) == 0) = false := beq_eq_false_iff_ne.2 (by omega)
    have HR := hide hrow
    have HL := hide hlen
    clear hrow hlen hl
    go_enter Tryz.func108, Tryz.ntmps108
    go_wp2_with (first
      | (at_make; go_must (refine wpList_make_full _ rfl _ _ 45 rfl w.heap.size 146 i0 _ 4 Tryz.underlying45 hi hz0 hz1 _ _ _ _ l.length rfl rfl rfl rfl (by rw [hz2]; omega) (by unfold maxLen; omega) (Nat.le_refl _) ?_); intro w1 hown1 hgrow1)
      | (refine wpList_copy_full rfl _ _ 45 45 rfl w.heap.size 146 4 Tryz.underlying45 Tryz.size146 _ l.length l.length _ ⟨b, off, none⟩ cap rfl rfl hown1 (attrRow l) (unhide HL) (fun j v hv => (hgrow1.cell ((unhide HR) j v hv) (by simp))) (attrs_oneCell l) ?_; intro w2 hown2 hgrow2))
    go_ret
    exact .inr ⟨by omega, rfl, RowT.of_owns hown2, ((Below.refl _ w).grown hgrow1 (Nat.le_refl _) (by simp)).grown hgrow2 hgrow1.size (fun k hk => by simp at hk; omega)⟩

section
variable [Inhabited AttrM]
theorem RowT.holds {w : World} {g : Nat} {l : List AttrM} (h : RowT w g l) : HoldsK encA 4 w g 0 l.toArray := by
  intro j hj
  rw [size_flatK] at hj
  have hj' : j < l.length * 4 := by simpa using hj
  refine ⟨?_, h.frozen _⟩
  rw [get_flatK _ _ _ _ hj, Nat.zero_add]
  obtain ⟨i, r, rfl, hr⟩ : ∃ i r, j = i * 4 + r ∧ r < 4 := ⟨j / 4, j % 4, by omega, by omega⟩
  have hi : i < l.length := by omega
  have e1 : (i * 4 + r) / 4 = i := by omega
  have e2 : (i * 4 + r) % 4 = r := by omega
  rw [e1, e2, h.cell (List.getElem?_eq_getElem hi) r hr]
  have e3 : l.toArray[i]! = l[i] := by rw [getElem!_pos _ _ (by simpa using hi)]; simp
  rw [e3]
  have hlen : r < (encA l[i]).length := by rw [show (encA l[i]).length = 4 from rfl]; exact hr
  rw [getElem!_pos (encA l[i]) r hlen]
  exact List.getElem?_eq_getElem hlen

theorem sortW_row {w : World} {g : Nat} {l l' : List AttrM} (h : RowT w g l) (hl : l'.length = l.length) (n : Nat) (os : Array Obj) :
    RowT (sortWorldK encA 4 w g 0 n l'.toArray os) g l' ∧ Mod (fun k => k = g) w (sortWorldK encA 4 w g 0 n l'.toArray os) := by
  have hg := h.lt
  have hh : HoldsK encA 4 (putRowK encA 4 (Sort.ahead w n) g 0 l'.toArray) g 0 l'.toArray := holdsK_putRowK encA 4 _ g 0 l.toArray l'.toArray (holdsK_ahead _ _ _ _ _ _ _ h.holds) (by simp [hl])
  have hother : ∀ k, k ≠ g → (putRowK encA 4 (Sort.ahead w n) g 0 l'.toArray).heap[k]? = w.heap[k]? := by
    intro k hk
    have hk' : ¬ g = k := fun e => hk e.symm
    show (mapBlock (Sort.ahead w n) g _).heap[k]? = _
    simp only [mapBlock, Array.getElem?_modify, if_neg hk']
    rfl
  have hself : ∃ c : Array Value, (putRowK encA 4 (Sort.ahead w n) g 0 l'.toArray).heap[g]? = some (.cells c 146 (0, 0)) ∧ c.size = l.length * 4 := by
    have h0 : (Sort.ahead w n).heap[g]? = some (.cells (attrRow l).toArray 146 (0, 0)) := h
    refine ⟨putCells id 0 (flatK encA 4 l'.toArray) (attrRow l).toArray, ?_, by simp [putCells, attrRow_len]⟩
    show (mapBlock (Sort.ahead w n) g _).heap[g]? = _
    simp only [mapBlock, Array.getElem?_modify, if_true, h0]
    rfl
  obtain ⟨c, hc, hcs⟩ := hself
  have ec : c = (attrRow l').toArray := by
    apply Array.ext_getElem?
    intro t
    by_cases ht : t < l'.length * 4
    · obtain ⟨i, r, rfl, hr⟩ : ∃ i r, t = i * 4 + r ∧ r < 4 := ⟨t / 4, t % 4, by omega, by omega⟩
      have hi : i < l'.length := by omega
      have h1 := (hh.cell (i := i) (c := r) (by simpa using hi) hr).1
      rw [Nat.zero_add, cell_of_row _ _ _ _ _ _ hc] at h1
      rw [h1, List.getElem?_toArray, attrRow_get l' i r hr, List.getElem?_eq_getElem hi]
      have e3 : l'.toArray[i]! = l'[i] := by rw [getElem!_pos _ _ (by simpa using hi)]; simp
      rw [e3]
      have hlen : r < (encA l'[i]).length := by rw [show (encA l'[i]).length = 4 from rfl]; exact hr
      rw [getElem!_pos (encA l'[i]) r hlen]
      exact (List.getElem?_eq_getElem hlen).symm
    · rw [Array.getElem?_eq_none (by omega), List.getElem?_toArray, List.getElem?_eq_none (by rw [attrRow_len]; omega)]
  subst ec
  have hsz : (putRowK encA 4 (Sort.ahead w n) g 0 l'.toArray).heap.size = w.heap.size := by unfold putRowK; rw [size_putRow]; rfl
  refine ⟨?_, rfl, rfl, rfl, ?_, fun k hk hne => ?_⟩
  · show (grow _ os).heap[g]? = _
    rw [heap_grow_old _ _ (by rw [hsz]; exact hg)]
    exact hc
  · show w.heap.size ≤ (grow _ os).heap.size
    rw [size_grow, hsz]; omega
  · show (grow _ os).heap[k]? = _
    rw [heap_grow_old _ _ (by rw [hsz]; exact hk)]
    exact hother k hne
end

theorem sort_any {w : World} {g : Nat} {l : List AttrM} (h : RowT w g l) (cap : Nat) (hl : l.length ≤ 2513169434916) :
    Calls Tryz.prog 145 #[.slice (some ⟨g, 0, none⟩) l.length cap, .func (.func 146) #[] #[]] w fun e w' => e = .returned (.tuple #[]) ∧ RowT w' g (sortA l) ∧ Mod (fun k => k = g) w w' := by
  haveI : Inhabited AttrM := ⟨⟨0, ⟨#[]⟩, ⟨#[]⟩, ⟨#[]⟩⟩⟩
  have eg : ∀ args w, (callFunc 146 args).run Tryz.prog w = .ok (.enter 146 args) w := enters_of Tryz.func146 (by kernel_rfl) rfl
  have hcon := AnyQ.slices_SortFunc_total Tryz.sortA 4 Tryz.isAgg146 Tryz.sizeOf146 encA (fun _ => rfl) (fun x v hv => by simp [encA, AttrM.cells] at hv; rcases hv with rfl | rfl | rfl | rfl <;> rfl) cmpA cmpA_swo 146 #[] g 0 cap l.toArray w eg
    (fun _ _ _ _ x y => compare_any x y _) h.holds h.lt (by simp; omega) cmpA_tot
  change Calls Tryz.prog 145 _ _ _ at hcon
  rw [List.size_toArray] at hcon
  refine hcon.mono ?_
  rintro e w' ⟨rfl, n, os, rfl⟩
  obtain ⟨h1, h2⟩ := sortW_row (l' := sortA l) h (sortA_len l) n os
  exact ⟨rfl, h1, h2⟩
theorem sortN_any (w : World) (cap : Nat) :
    Calls Tryz.prog 145 #[.slice none 0 cap, .func (.func 146) #[] #[]] w fun e w' => e = .returned (.tuple #[]) ∧ w' = w :=
  AnyF.slices_SortFunc_none Tryz.sortA none cap _ w
end Go.Proofs.YtmkdnmkckipnaaaGreat

namespace Go.Proofs.YtmkdnmkckipnaaaGreat
open Go.RowKit Go.Sort

theorem eqAttr (a b : AttrM) (w : World) : (Op.equalIn 10000 146 (.agg #[.int .i64 a.space, .string a.pre, .string a.name, .string a.val]) (.agg #[.int .i64 b.space, .string b.pre, .string b.name, .string b.val])).run Tryz.prog w = .ok (eqA a b) w := by
  have u3 := Tryz.underlying3
  have a3 := Tryz.isAgg3
  have z3 := Tryz.sizeOf3
  have u9 := Tryz.underlying9
  have a9 := Tryz.isAgg9
  have z9 := Tryz.sizeOf9
  have hS : Tryz.prog.underlying 146 = some (.struct (Tryz.prog.fieldsOf 146)) := by kernel_rfl
  have hp : Tryz.prog.stoodInHeld 146 = false := by kernel_rfl
  have dk : ∀ x y : ByteArray, decide (x = y) = decide (x.toList = y.toList) := fun x y => decide_eq_decide.2 ⟨fun e => by rw [e], bytes_ext⟩
  rw [show (10000 : Nat) = 9999 + 1 from rfl, run_equalIn_agg w 9999 146 _ _ hS hp]
  simp only [Program.fieldsOf, Tryz.underlying146]
  go_simp
  unfold eqA
  simp only [dk]
  by_cases h0 : a.space = b.space <;> by_cases h1 : a.pre.toList = b.pre.toList <;> by_cases h2 : a.name.toList = b.name.toList <;> by_cases h3 : a.val.toList = b.val.toList <;> simp [h0, h1, h2, h3]

theorem neqAttr (a b : AttrM) (w : World) : (binOp .neq 146 (.agg #[.int .i64 a.space, .string a.pre, .string a.name, .string a.val]) (.agg #[.int .i64 b.space, .string b.pre, .string b.name, .string b.val])).run Tryz.prog w = .ok (.bool (!eqA a b)) w := by
  rw [run_neq_struct, eqAttr]; rfl
theorem eqlAttr (a b : AttrM) (w : World) : (binOp .eql 146 (.agg #[.int .i64 a.space, .string a.pre, .string a.name, .string a.val]) (.agg #[.int .i64 b.space, .string b.pre, .string b.name, .string b.val])).run Tryz.prog w = .ok (.bool (eqA a b)) w := by
  rw [run_eql_struct, eqAttr]; rfl
theorem guardA : Tryz.prog.eqGuardType Tryz.prog.depth 146 = false := by kernel_rfl

theorem below_dnAc {w w' : World} (h : Below w.heap.size w w') (n : Nat) : Below w.heap.size w (w'.drewN n) := ⟨h.os, h.tape, h.output, h.size, h.block⟩
theorem compA_small {l : List AttrM} (h : l.length < 2) : compA l = l := by
  match l, h with
  | [], _ => rfl
  | [x], _ => rfl

/-- As long as no two neighbours are one. -/
theorem compA_step {l : List AttrM} {k : Nat} {x p : AttrM} (hx : l[k + 1]? = some x) (hp : l[k]? = some p) : compA (l.take (k + 2)) = compA (l.take (k + 1)) ++ (if eqA x p = true then [] else [x]) := by
  have hlt := (List.getElem?_eq_some_iff.1 hx).1
  have e : l.take (k + 2) = l.take (k + 1) ++ [x] := by
    rw [List.take_succ_eq_append_getElem hlt]
    have := (List.getElem?_eq_some_iff.1 hx).2
    rw [this]
  rw [e, compA_snoc (k := k) (p := p) (by simp; omega) (by rw [List.getElem?_take, if_pos (by omega)]; exact hp)]

/-- What lies behind c attributes of a row is made zero. -/
theorem clear_rest {w : World} {g : Nat} {L : List AttrM} (h : RowT w g L) (c : Nat) (hc : c < L.length) (m cp ty : Nat) (hm : m = L.length - c) :
    ∃ w', (Builtin.clear_ #[45] ty #[.slice (some ⟨g, c * 4, none⟩) m cp]).run Tryz.prog w = .ok (.tuple #[]) w' ∧ (∃ cur, w'.heap[g]? = some (.cells cur 146 (0, 0))) ∧ AttrsIn w' (some ⟨g, 0, none⟩) (L.take c) ∧ Mod (fun k => k = g) w w' := by
  obtain ⟨m, rfl⟩ : ∃ m', m = m' + 1 := ⟨m - 1, by omega⟩
  obtain ⟨zs, hzs, hzl, hz1⟩ : ∃ zs : List Value, (Builtin.zeroCells #[.int .i64 0, .string ⟨#[]⟩, .string ⟨#[]⟩, .string ⟨#[]⟩] (m + 1)).toList = zs ∧ zs.length = (m + 1) * 4 ∧ ∀ v ∈ zs, v.oneCell' = true := by
    refine ⟨_, rfl, ?_, ?_⟩
    · have := size_zeroCells #[Value.int .i64 0, .string ⟨#[]⟩, .string ⟨#[]⟩, .string ⟨#[]⟩] (m + 1)
      simp at this
      rw [Array.length_toList, this]
    · intro v hv
      rw [Array.mem_toList_iff] at hv
      simp only [Builtin.zeroCells, Array.mem_map, Array.mem_range] at hv
      obtain ⟨i, _, rfl⟩ := hv
      have h4 : i % 4 < 4 := Nat.mod_lt _ (by omega)
      show ((#[Value.int .i64 0, .string ⟨#[]⟩, .string ⟨#[]⟩, .string ⟨#[]⟩] : Array Value)[i % 4]!).oneCell' = true
      generalize i % 4 = q at h4
      match q, h4 with
      | 0, _ => rfl
      | 1, _ => rfl
      | 2, _ => rfl
      | 3, _ => rfl
  have hst := run_storeCells_at Tryz.prog g (c * 4) 146 zs 0 (attrRow L).toArray w h (by simp [attrRow_len, hzl]; omega) hz1
  refine ⟨w.setRow g ((attrRow L).toArray.toList.take (c * 4 + 0) ++ zs ++ (attrRow L).toArray.toList.drop (c * 4 + 0 + zs.length)).toArray, ?_, ⟨_, setRow_heap w g _ _ 146 _ h⟩, ⟨fun i x hi => ?_⟩, ⟨rfl, rfl, rfl, by simp, fun k _ hk => setRow_other w g k _ hk⟩⟩
  · simp [Builtin.clear_, run_underlying Tryz.underlying45, Tryz.zeroValue146, hzs, Value.cells]
    simp at hst
    rw [hst]; simp
  · rw [List.getElem?_take] at hi
    split at hi
    · rename_i hic
      have key : ∀ j, j < 4 → (w.setRow g ((attrRow L).toArray.toList.take (c * 4 + 0) ++ zs ++ (attrRow L).toArray.toList.drop (c * 4 + 0 + zs.length)).toArray).cell? ⟨g, 0 + i * 4 + j, none⟩ = x.cells[j]? := by
        intro j hj
        rw [cell_of_row _ g _ _ _ _ (setRow_heap w g _ _ 146 _ h), List.getElem?_toArray, List.append_assoc, List.getElem?_append_left (by simp [attrRow_len]; omega), List.getElem?_take, if_pos (by omega), Nat.zero_add]
        show (attrRow L)[i * 4 + j]? = _
        rw [attrRow_get L i j hj, hi]; rfl
      exact ⟨g, 0, rfl, key 0 (by omega), key 1 (by omega), key 2 (by omega), key 3 (by omega)⟩
    · cases hi

theorem RowT.set1 {w : World} {g : Nat} {L : List AttrM} (h : RowT w g L) {c : Nat} {o y : AttrM} (hc : L[c]? = some o) (j : Nat) (hj : j < 4) (v : Value) (hy : y.cells = o.cells.set j v) :
    RowT (w.setCell ⟨g, c * 4 + j, none⟩ v) g (L.set c y) := by
  have h1 := heap_setCell_same w g (c * 4 + j) _ _ v h
  rw [List.setIfInBounds_toArray, attrRow, flat_set AttrM.cells 4 attr_len L c j hj o y v hc hy] at h1
  exact h1
theorem RowT.set {w : World} {g : Nat} {L : List AttrM} (h : RowT w g L) {c : Nat} (hc : c < L.length) (x : AttrM) :
    RowT ((((w.setCell ⟨g, c * 4, none⟩ (.int .i64 x.space)).setCell ⟨g, c * 4 + 1, none⟩ (.string x.pre)).setCell ⟨g, c * 4 + 2, none⟩ (.string x.name)).setCell ⟨g, c * 4 + 3, none⟩ (.string x.val)) g (L.set c x) := by
  obtain ⟨o, ho⟩ : ∃ o, L[c]? = some o := ⟨_, List.getElem?_eq_getElem hc⟩
  have h1 := h.set1 ho 0 (by omega) (.int .i64 x.space) (y := ⟨x.space, o.pre, o.name, o.val⟩) rfl
  have h2 := h1.set1 (c := c) (List.getElem?_set_self hc) 1 (by omega) (.string x.pre) (y := ⟨x.space, x.pre, o.name, o.val⟩) rfl
  rw [List.set_set] at h2
  have h3 := h2.set1 (c := c) (List.getElem?_set_self hc) 2 (by omega) (.string x.name) (y := ⟨x.space, x.pre, x.name, o.val⟩) rfl
  rw [List.set_set] at h3
  have h4 := h3.set1 (c := c) (List.getElem?_set_self hc) 3 (by omega) (.string x.val) (y := x) rfl
  rw [List.set_set] at h4
  exact h4

theorem mod_dn {F : Nat → Prop} {w w' : World} (h : Mod F w w') (n : Nat) : Mod F w (w'.drewN n) := ⟨h.os, h.tape, h.output, h.size, h.block⟩
theorem mod_set4 {g : Nat} {w w' : World} (h : Mod (fun k => k = g) w w') (a b c d : Nat) (u v x y : Value) : Mod (fun k => k = g) w ((((w'.setCell ⟨g, a, none⟩ u).setCell ⟨g, b, none⟩ v).setCell ⟨g, c, none⟩ x).setCell ⟨g, d, none⟩ y) :=
  (((h.trans (Mod.setCell _ _ _ rfl)).trans (Mod.setCell _ _ _ rfl)).trans (Mod.setCell _ _ _ rfl)).trans (Mod.setCell _ _ _ rfl)

set_option maxHeartbeats 4000000 in
set_option maxRecDepth 10000 in
theorem compact_any {w : World} {g : Nat} {l : List AttrM} (h : RowT w g l) (hl : l.length ≤ 2513169434916) :
    Calls Tryz.prog 147 #[.slice (some ⟨g, 0, none⟩) l.length l.length] w fun e w' => e = .returned (.slice (some ⟨g, 0, none⟩) (compA l).length l.length) ∧ AttrsIn w' (some ⟨g, 0, none⟩) (compA l) ∧ (∃ cur, w'.heap[g]? = some (.cells cur 146 (0, 0))) ∧ Mod (fun k => k = g) w w' := by
  have HH := hide h
  by_cases h2 : l.length < 2
  · have h2z : (l.length : Int) < 2 := by omega
    have HE : Hid (compA l = l) := hide (compA_small h2)
    clear h h2
    go_enter Tryz.func147, Tryz.ntmps147
    go_wp2
    go_ret
    refine ⟨?_, ?_, ⟨_, unhide HH⟩, Mod.refl _ _⟩
    · rw [unhide HE]; rfl
    · rw [unhide HE]; exact (unhide HH).attrs
  · have h2z : ¬ (l.length : Int) < 2 := by omega
    have h2n : 2 ≤ l.length := by omega
    have hlz : (l.length : Int) ≤ 2513169434916 := by omega
    have H2 := hide h2n
    clear h h2 h2n hl
    go_enter Tryz.func147, Tryz.ntmps147
    go_wp2
    go_loopg [3] l.length (fun gk s wx => ∃ k : Nat, s = .int .i64 ((k : Int) + 1) ∧ k + gk = l.length ∧ Below w.heap.size w wx ∧ compA (l.take (k + 1)) = l.take (k + 1))
    case atStart => exact ⟨0, rfl, by have := unhide H2; omega, Below.refl _ _, by cases l <;> rfl⟩
    case round =>
      obtain ⟨k, rfl, hkk, hb, hpre⟩ := hrel
      have HP := hide hpre
      have HBW := hide hb
      clear hpre hb
      by_cases hk : k + 1 < l.length
      · obtain ⟨x, hx⟩ : ∃ x, l[k + 1]? = some x := ⟨_, List.getElem?_eq_getElem hk⟩
        obtain ⟨p, hp⟩ : ∃ p, l[k]? = some p := ⟨_, List.getElem?_eq_getElem (by omega)⟩
        obtain ⟨a0, a1, a2, a3⟩ := ((unhide HH).below (unhide HBW)).four hx
        obtain ⟨b0, b1, b2, b3⟩ := ((unhide HH).below (unhide HBW)).four hp
        have HS := hide (compA_step hx hp)
        have hkz : (k : Int) + 1 < (l.length : Int) := by omega
        have hkz1 : (k : Int) < (l.length : Int) := by omega
        have hk0 : (0 : Int) ≤ (k : Int) + 1 := by omega
        have hkt : ((k : Int) + 1).toNat = k + 1 := by omega
        have HX := hide hx
        have HPP := hide hp
        clear hx hp
        cases he : eqA x p with
        | false =>
          have HE := hide he
          have hg := guardA
          have hq := fun W => eqlAttr x p W
          rw [he] at hq
          clear he
          go_wp2
          go_quiet (fail)
          go_wp2
          go_roundg (gk - 1)
          case measure => omega
          case rel =>
            refine ⟨k + 1, by go_num, by omega, below_dnAc (unhide HBW) _, ?_⟩
            rw [unhide HS, unhide HE, unhide HP, if_neg (by decide), List.take_succ_eq_append_getElem hk]
            congr 1
            have := (List.getElem?_eq_some_iff.1 (unhide HX)).2
            rw [this]
        | true =>
          have HE := hide he
          have hg := guardA
          have hq := fun W => eqlAttr x p W
          rw [he] at hq
          clear he
          obtain ⟨m, hm⟩ : ∃ m, m = k + 1 := ⟨_, rfl⟩
          have HM := hide hm
          clear hm
          have hcz : ¬ (l.length : Int) = (k : Int) + 1 := by omega
          go_wp2
          go_quiet (fail)
          go_wp2
          obtain ⟨q, hq0⟩ : ∃ q, l.length - (k + 1) = q := ⟨_, rfl⟩
          rw [hq0]
          have HQ0 := hide hq0
          have HKK := hide hkk
          clear hq0 hq a0 a1 a2 a3 b0 b1 b2 b3 hkz1 hk0 hkt hcz hkk
          go_loopg [3, 5] l.length (fun gk s t wx => ∃ (b c : Nat) (L : List AttrM), s = .int .i64 c ∧ t = .int .i64 ((b : Int) + 1) ∧ k + 1 + b + gk = k + 1 + l.length ∧ b < q ∧ L.length = l.length ∧ (compA (l.take (k + 1 + b + 1))).length = c ∧ L.take c = compA (l.take (k + 1 + b + 1)) ∧ c ≤ k + 1 + b ∧ (∀ j, k + 1 + b ≤ j → L[j]? = l[j]?) ∧ RowT wx g L ∧ Mod (fun k => k = g) w wx)
          case atStart =>
            have e := unhide HS
            rw [unhide HE, if_pos rfl, List.append_nil, unhide HP] at e
            have e0 := unhide HQ0
            refine ⟨0, k + 1, l, by go_num, rfl, by omega, by omega, rfl, ?_, ?_, by omega, fun _ _ => rfl, (unhide HH).below (below_dnAc (unhide HBW) _), Mod.of_below (below_dnAc (unhide HBW) _)⟩
            · rw [show k + 1 + 0 + 1 = k + 2 by omega, e]; simp; omega
            · rw [show k + 1 + 0 + 1 = k + 2 by omega, e]
          case round =>
            obtain ⟨b, c, L, rfl, rfl, hbk, hbq, hLl, hcl, htk, hcm, hrest, hR, hMo⟩ := hrel
            have e0 := unhide HQ0
            have hcn : c < l.length := by omega
            have hcz : (c : Int) < (l.length : Int) := by omega
            have hc0 : (0 : Int) ≤ (c : Int) := by omega
            have HTK := hide htk
            have HCL := hide hcl
            have HRE := hide hrest
            have HMO := hide hMo
            have HCM := hide hcm
            have HLL := hide hLl
            have HBK := hide hbk
            have hkz9 := hkz
            clear htk hcl hrest hMo hcm hbk hkz
            by_cases hb2 : b + 1 < q
            · obtain ⟨x', hx'⟩ : ∃ x, l[k + 1 + b + 1]? = some x := ⟨_, List.getElem?_eq_getElem (by omega)⟩
              obtain ⟨p', hp'⟩ : ∃ p, l[k + 1 + b]? = some p := ⟨_, List.getElem?_eq_getElem (by omega)⟩
              have o1 : (k + 1 + b + 1) * 4 = (k + 1) * 4 + (b + 1) * 4 := by omega
              have o2 : (k + 1 + b) * 4 = (k + 1) * 4 + b * 4 := by omega
              obtain ⟨a0, a1, a2, a3⟩ := hR.four (((unhide HRE) _ (by omega)).trans hx')
              obtain ⟨b0, b1, b2, b3⟩ := hR.four (((unhide HRE) _ (by omega)).trans hp')
              rw [o1] at a0 a1 a2 a3
              rw [o2] at b0 b1 b2 b3
              have HS2 := hide (compA_step hx' hp')
              have hbz : (b : Int) + 1 < (q : Int) := by omega
              have hbz1 : (b : Int) < (q : Int) := by omega
              have hb0 : (0 : Int) ≤ (b : Int) + 1 := by omega
              have hbt : ((b : Int) + 1).toNat = b + 1 := by omega
              have hqz : (q : Int) ≤ 2513169434916 := by omega
              have HX' := hide hx'
              have HR := hide hR
              have HO := hide (And.intro o1 o2)
              have f0 := hR.frozen (c * 4)
              have f1 := hR.frozen (c * 4 + 1)
              have f2 := hR.frozen (c * 4 + 2)
              have f3 := hR.frozen (c * 4 + 3)
              obtain ⟨oc, hoc⟩ : ∃ o, L[c]? = some o := ⟨_, List.getElem?_eq_getElem (by rw [unhide HLL]; exact hcn)⟩
              obtain ⟨c0, c1, c2, c3⟩ := hR.four hoc
              clear hx' hp' o1 o2 hR hoc e0 hcn hbq hb2
              cases he2 : eqA x' p' with
              | true =>
                have HE2 := hide he2
                have hq := fun W => neqAttr x' p' W
                rw [he2] at hq
                clear he2 c0 c1 c2 c3 f0 f1 f2 f3
                go_wp2
                go_quiet (fail)
                go_wp2
                go_roundg (gk - 1)
                case measure => have := unhide HBK; have := unhide HQ0; omega
                case rel =>
                  have hS2 := unhide HS2
                  rw [unhide HE2, if_pos rfl, List.append_nil] at hS2
                  have hbk := unhide HBK
                  have hcm := unhide HCM
                  have hq0 := unhide HQ0
                  refine ⟨b + 1, c, L, rfl, by go_num, by omega, by omega, unhide HLL, ?_, ?_, by omega, fun j hj => (unhide HRE) j (by omega), unhide HR, mod_dn (unhide HMO) _⟩
                  · rw [show k + 1 + (b + 1) + 1 = k + 1 + b + 2 by omega, hS2]; exact unhide HCL
                  · rw [show k + 1 + (b + 1) + 1 = k + 1 + b + 2 by omega, hS2]; exact unhide HTK
              | false =>
                have HE2 := hide he2
                have hq := fun W => neqAttr x' p' W
                rw [he2] at hq
                clear he2
                go_wp2
                go_quiet (fail)
                go_wp2
                go_roundg (gk - 1)
                case measure => have := unhide HBK; have := unhide HQ0; omega
                case rel =>
                  have hS2 := unhide HS2
                  rw [unhide HE2, if_neg (by decide)] at hS2
                  have hbk := unhide HBK
                  have hcm := unhide HCM
                  have hq0 := unhide HQ0
                  have hcl := unhide HCL
                  refine ⟨b + 1, c + 1, L.set c x', by go_num, by go_num, by omega, by omega, by rw [List.length_set]; exact unhide HLL, ?_, ?_, by omega, fun j hj => ?_, (show RowT (wr.drewN nq) g L from unhide HR).set (by rw [unhide HLL]; omega) x', mod_set4 (mod_dn (unhide HMO) nq) _ _ _ _ _ _ _ _⟩
                  · rw [show k + 1 + (b + 1) + 1 = k + 1 + b + 2 by omega, hS2, List.length_append, hcl]; rfl
                  · rw [show k + 1 + (b + 1) + 1 = k + 1 + b + 2 by omega, hS2, ← unhide HTK, List.take_succ_eq_append_getElem (by rw [List.length_set, unhide HLL]; omega), List.getElem_set_self, List.take_set_of_le (Nat.le_refl _)]
                  · rw [List.getElem?_set_ne (by omega)]; exact (unhide HRE) j (by omega)
            · have hbz : ¬ (b : Int) + 1 < (q : Int) := by omega
              have hqz : (q : Int) ≤ 2513169434916 := by omega
              have HC : Hid (compA l = L.take c ∧ (compA l).length = c) := hide (by
                have h1 := unhide HTK
                have h3 := unhide HCL
                have e9 : l.take (k + 1 + b + 1) = l := List.take_of_length_le (by omega)
                rw [e9] at h1 h3
                exact ⟨h1.symm, h3⟩)
              obtain ⟨w', hcr, hcur, hat, hmd⟩ := clear_rest hR c (by rw [unhide HLL]; exact hcn) (l.length - c) (l.length - c) 0 (by rw [unhide HLL])
              have HAT := hide hat
              have HMD := hide hmd
              have HCU := hide hcur
              have hne : ¬ (l.length : Int) = (c : Int) := by omega
              clear hat hmd hcur hR e0 hcn hbq hb2
              go_wp2
              go_ret
              refine ⟨?_, ?_, unhide HCU, (unhide HMO).trans (unhide HMD)⟩
              · rw [(unhide HC).2]; rfl
              · rw [(unhide HC).1]; exact unhide HAT
      · have hkz : ¬ (k : Int) + 1 < (l.length : Int) := by omega
        have HE : Hid (compA l = l) := hide (by
          have := unhide HP
          rwa [List.take_of_length_le (by omega)] at this)
        go_wp2
        go_ret
        refine ⟨?_, by rw [unhide HE]; exact ((unhide HH).below (unhide HBW)).attrs, ⟨_, (unhide HH).below (unhide HBW)⟩, Mod.of_below (unhide HBW)⟩
        rw [unhide HE]; rfl
end Go.Proofs.YtmkdnmkckipnaaaGreat
