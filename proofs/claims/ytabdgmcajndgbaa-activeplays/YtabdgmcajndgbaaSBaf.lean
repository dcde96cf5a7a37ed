/-
  Package active: a list of attributes of one's own; sorted.
-/
import Derived.Test.YtabdgmcajndgbaaSBae
import Derived.Shelf.SlSortCmp.NoneTotal
namespace Go.Proofs.Ytabdgmcajndgbaa
open Go.RowKit Go.Sort Go.Shelf

/-- A block that holds these attributes and nothing else. -/
def RowT (w : World) (g : Nat) (l : List AttrM) : Prop := w.heap[g]? = some (.cells (attrRow l).toArray 86 (0, 0))
theorem attrRow_len (l : List AttrM) : (attrRow l).length = l.length * 4 := flat_len AttrM.cells 4 attr_len l
theorem attrRow_get (l : List AttrM) (i j : Nat) (hj : j < 4) : (attrRow l)[i * 4 + j]? = (l[i]?).bind fun x => x.cells[j]? := flat_get AttrM.cells 4 attr_len l i j hj

section
variable {w w' : World} {g : Nat} {l : List AttrM}
theorem RowT.lt (h : RowT w g l) : g < w.heap.size := lt_of_block h
theorem RowT.below (h : RowT w g l) (hb : Below w.heap.size w w') : RowT w' g l := (hb.block g h.lt).trans h
theorem RowT.mod {F : Nat → Prop} (h : RowT w g l) (hm : Mod F w w') (hF : ¬ F g) : RowT w' g l := (hm.block g h.lt hF).trans h
theorem RowT.cell (h : RowT w g l) {i : Nat} {x : AttrM} (hi : l[i]? = some x) (j : Nat) (hj : j < 4) : w.cell? ⟨g, i * 4 + j, none⟩ = x.cells[j]? := by
  rw [cell_of_row w g _ _ _ _ h, List.getElem?_toArray, attrRow_get l i j hj, hi]; rfl
theorem RowT.four (h : RowT w g l) {i : Nat} {x : AttrM} (hi : l[i]? = some x) : w.cell? ⟨g, i * 4, none⟩ = some (.int .i64 x.space) ∧ w.cell? ⟨g, i * 4 + 1, none⟩ = some (.string x.pre) ∧ w.cell? ⟨g, i * 4 + 2, none⟩ = some (.string x.name) ∧ w.cell? ⟨g, i * 4 + 3, none⟩ = some (.string x.val) :=
  ⟨h.cell hi 0 (by omega), h.cell hi 1 (by omega), h.cell hi 2 (by omega), h.cell hi 3 (by omega)⟩
theorem RowT.attrs (h : RowT w g l) : AttrsIn w (some ⟨g, 0, none⟩) l := ⟨fun i x hi => by
  obtain ⟨c0, c1, c2, c3⟩ := h.four hi
  exact ⟨g, 0, rfl, by rw [Nat.zero_add]; exact c0, by rw [Nat.zero_add]; exact c1, by rw [Nat.zero_add]; exact c2, by rw [Nat.zero_add]; exact c3⟩⟩
theorem RowT.frozen (h : RowT w g l) (j : Nat) : w.frozen? ⟨g, j, none⟩ = false := by
  unfold RowT at h
  simp [World.frozen?, h]
theorem AttrsIn.modA {F : Nat → Prop} {a : Option Addr} (h : AttrsIn w a l) (hm : Mod F w w') (hF : ∀ b off, a = some ⟨b, off, none⟩ → ¬ F b) : AttrsIn w' a l := by
  refine ⟨fun i x hi => ?_⟩
  obtain ⟨b, off, e, c0, c1, c2, c3⟩ := h.cells i x hi
  have hb := hm.block b (World.block_lt_of_cell? w _ c0) (hF b off e)
  exact ⟨b, off, e, (World.cell?_of_block hb).trans c0, (World.cell?_of_block hb).trans c1, (World.cell?_of_block hb).trans c2, (World.cell?_of_block hb).trans c3⟩
end

def encA (x : AttrM) : List Value := x.cells

theorem RowT.of_owns {w : World} {base g n : Nat} {l : List AttrM} (h : w.ownsRow base 86 4 (.slice (some ⟨g, 0, none⟩) n n) n (attrRow l)) : RowT w g l := by
  rcases h.2 with ⟨h', _⟩ | ⟨g', cap', cur, h', hb, hg, hnc, hcm, hcs, htake⟩
  · simp at h'
  · simp only [Value.slice.injEq, Option.some.injEq, Addr.mk.injEq, and_true, true_and] at h'
    obtain ⟨rfl, rfl⟩ := h'
    have e : cur = (attrRow l).toArray := by
      rw [← htake, List.take_of_length_le (by simp [hcs])]
    rw [e] at hg
    exact hg

set_option maxHeartbeats 400000 in
/-- A list of its own: new memory, nil if it is empty. -/
theorem ownA_any (w : World) (a : Option Addr) (cap : Nat) (l : List AttrM) (hl : AttrsIn w a l) (hn : l.length ≤ 2513169434916) :
    Calls Try.prog 62 #[.slice a l.length cap] w fun e w' => (l = [] ∧ e = .returned (.slice none 0 0) ∧ w' = w) ∨ (0 < l.length ∧ e = .returned (.slice (some ⟨w.heap.size, 0, none⟩) l.length l.length) ∧ RowT w' w.heap.size l ∧ Below w.heap.size w w') := by
  by_cases h0 : l.length = 0
  · have hnil : l = [] := List.eq_nil_of_length_eq_zero h0
    subst hnil
    clear h0
    go_enter Try.func62, Try.ntmps62
    go_wp2
    go_ret
    exact .inl ⟨trivial, rfl, rfl⟩
  · obtain ⟨b, off, rfl⟩ := Addr.of_lt hl (by omega)
    have hrow := hl.row
    have hlen := attrRow_len l
    obtain ⟨i0, hi, hz0, hz1, hz2⟩ := info_parts Try.info86
    have h0' : ((l.length : Int) == 0) = false := beq_eq_false_iff_ne.2 (by omega)
    have HR := hide hrow
    have HL := hide hlen
    clear hrow hlen hl
    go_enter Try.func62, Try.ntmps62
    go_wp2_with (first
      | (at_make; go_must (refine wpList_make_full _ rfl _ _ 35 rfl w.heap.size 86 i0 _ 4 Try.underlying35 hi hz0 hz1 _ _ _ _ l.length rfl rfl rfl rfl (by rw [hz2]; omega) (by unfold maxLen; omega) (Nat.le_refl _) ?_); intro w1 hown1 hgrow1)
      | (refine wpList_copy_full rfl _ _ 35 35 rfl w.heap.size 86 4 Try.underlying35 Try.size86 _ l.length l.length _ ⟨b, off, none⟩ cap rfl rfl hown1 (attrRow l) (unhide HL) (fun j v hv => (hgrow1.cell ((unhide HR) j v hv) (by simp))) (attrs_oneCell l) ?_; intro w2 hown2 hgrow2))
    go_ret
    exact .inr ⟨by omega, rfl, RowT.of_owns hown2, ((Below.refl _ w).grown hgrow1 (Nat.le_refl _) (by simp)).grown hgrow2 hgrow1.size (fun k hk => by simp at hk; omega)⟩

section
variable [Inhabited AttrM]
theorem RowT.holds {w : World} {g : Nat} {l : List AttrM} (h : RowT w g l) : HoldsK encA 4 w g 0 l.toArray := by
  intro j hj
  rw [size_flatK] at hj
  have hj' : j < l.length * 4 := by simpa using hj
  refine ⟨?_, h.frozen _⟩
  rw [get_flatK _ _ _ _ hj, Nat.zero_add]
  obtain ⟨i, r, rfl, hr⟩ : ∃ i r, j = i * 4 + r ∧ r < 4 := ⟨j / 4, j % 4, by omega, by omega⟩
  have hi : i < l.length := by omega
  have e1 : (i * 4 + r) / 4 = i := by omega
  have e2 : (i * 4 + r) % 4 = r := by omega
  rw [e1, e2, h.cell (List.getElem?_eq_getElem hi) r hr]
  have e3 : l.toArray[i]! = l[i] := by rw [getElem!_pos _ _ (by simpa using hi)]; simp
  rw [e3]
  have hlen : r < (encA l[i]).length := by rw [show (encA l[i]).length = 4 from rfl]; exact hr
  rw [getElem!_pos (encA l[i]) r hlen]
  exact List.getElem?_eq_getElem hlen

theorem sortW_row {w : World} {g : Nat} {l l' : List AttrM} (h : RowT w g l) (hl : l'.length = l.length) (n : Nat) (os : Array Obj) :
    RowT (sortWorldK encA 4 w g 0 n l'.toArray os) g l' ∧ Mod (fun k => k = g) w (sortWorldK encA 4 w g 0 n l'.toArray os) := by
  have hg := h.lt
  have hh : HoldsK encA 4 (putRowK encA 4 (Sort.ahead w n) g 0 l'.toArray) g 0 l'.toArray := holdsK_putRowK encA 4 _ g 0 l.toArray l'.toArray (holdsK_ahead _ _ _ _ _ _ _ h.holds) (by simp [hl])
  have hother : ∀ k, k ≠ g → (putRowK encA 4 (Sort.ahead w n) g 0 l'.toArray).heap[k]? = w.heap[k]? := by
    intro k hk
    have hk' : ¬ g = k := fun e => hk e.symm
    show (mapBlock (Sort.ahead w n) g _).heap[k]? = _
    simp only [mapBlock, Array.getElem?_modify, if_neg hk']
    rfl
  have hself : ∃ c : Array Value, (putRowK encA 4 (Sort.ahead w n) g 0 l'.toArray).heap[g]? = some (.cells c 86 (0, 0)) ∧ c.size = l.length * 4 := by
    have h0 : (Sort.ahead w n).heap[g]? = some (.cells (attrRow l).toArray 86 (0, 0)) := h
    refine ⟨putCells id 0 (flatK encA 4 l'.toArray) (attrRow l).toArray, ?_, by simp [putCells, attrRow_len]⟩
    show (mapBlock (Sort.ahead w n) g _).heap[g]? = _
    simp only [mapBlock, Array.getElem?_modify, if_true, h0]
    rfl
  obtain ⟨c, hc, hcs⟩ := hself
  have ec : c = (attrRow l').toArray := by
    apply Array.ext_getElem?
    intro t
    by_cases ht : t < l'.length * 4
    · obtain ⟨i, r, rfl, hr⟩ : ∃ i r, t = i * 4 + r ∧ r < 4 := ⟨t / 4, t % 4, by omega, by omega⟩
      have hi : i < l'.length := by omega
      have h1 := (hh.cell (i := i) (c := r) (by simpa using hi) hr).1
      rw [Nat.zero_add, cell_of_row _ _ _ _ _ _ hc] at h1
      rw [h1, List.getElem?_toArray, attrRow_get l' i r hr, List.getElem?_eq_getElem hi]
      have e3 : l'.toArray[i]! = l'[i] := by rw [getElem!_pos _ _ (by simpa using hi)]; simp
      rw [e3]
      have hlen : r < (encA l'[i]).length := by rw [show (encA l'[i]).length = 4 from rfl]; exact hr
      rw [getElem!_pos (encA l'[i]) r hlen]
      exact (List.getElem?_eq_getElem hlen).symm
    · rw [Array.getElem?_eq_none (by omega), List.getElem?_toArray, List.getElem?_eq_none (by rw [attrRow_len]; omega)]
  subst ec
  have hsz : (putRowK encA 4 (Sort.ahead w n) g 0 l'.toArray).heap.size = w.heap.size := by unfold putRowK; rw [size_putRow]; rfl
  refine ⟨?_, rfl, rfl, rfl, ?_, fun k hk hne => ?_⟩
  · show (grow _ os).heap[g]? = _
    rw [heap_grow_old _ _ (by rw [hsz]; exact hg)]
    exact hc
  · show w.heap.size ≤ (grow _ os).heap.size
    rw [size_grow, hsz]; omega
  · show (grow _ os).heap[k]? = _
    rw [heap_grow_old _ _ (by rw [hsz]; exact hk)]
    exact hother k hne
end

theorem sort_any {w : World} {g : Nat} {l : List AttrM} (h : RowT w g l) (cap : Nat) (hl : l.length ≤ 2513169434916) :
    Calls Try.prog 73 #[.slice (some ⟨g, 0, none⟩) l.length cap, .func (.func 74) #[] #[]] w fun e w' => e = .returned (.tuple #[]) ∧ RowT w' g (sortA l) ∧ Mod (fun k => k = g) w w' := by
  haveI : Inhabited AttrM := ⟨⟨0, ⟨#[]⟩, ⟨#[]⟩, ⟨#[]⟩⟩⟩
  have eg : ∀ args w, (callFunc 74 args).run Try.prog w = .ok (.enter 74 args) w := enters_of Try.func74 (by kernel_rfl) rfl
  have hcon := AnyQ.slices_SortFunc_total Try.sortA 4 Try.isAgg86 Try.sizeOf86 encA (fun _ => rfl) (fun x v hv => by simp [encA, AttrM.cells] at hv; rcases hv with rfl | rfl | rfl | rfl <;> rfl) cmpA cmpA_swo 74 #[] g 0 cap l.toArray w eg
    (fun _ _ _ _ x y => compare_any x y _) h.holds h.lt (by simp; omega) cmpA_tot
  change Calls Try.prog 73 _ _ _ at hcon
  rw [List.size_toArray] at hcon
  refine hcon.mono ?_
  rintro e w' ⟨rfl, n, os, rfl⟩
  obtain ⟨h1, h2⟩ := sortW_row (l' := sortA l) h (sortA_len l) n os
  exact ⟨rfl, h1, h2⟩
theorem sortN_any (w : World) (cap : Nat) :
    Calls Try.prog 73 #[.slice none 0 cap, .func (.func 74) #[] #[]] w fun e w' => e = .returned (.tuple #[]) ∧ w' = w :=
  AnyF.slices_SortFunc_none Try.sortA none cap _ w
end Go.Proofs.Ytabdgmcajndgbaa
