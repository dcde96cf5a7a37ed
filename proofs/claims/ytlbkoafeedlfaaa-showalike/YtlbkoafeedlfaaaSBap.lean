/-
  SetAttr, walked. DelAttr. DelAttr, where the attribute is there.
-/
import Derived.Test.YtlbkoafeedlfaaaSBao
import Derived.Deep.RegionWith
namespace Go.Proofs.Ytlbkoafeedlfaaa
open Go.RowKit

/-- The cells of an attribute's variable. -/
def xCells (x : AttrM) : Array Value := #[.int .i64 x.space, .string x.pre, .string x.name, .string x.val]

set_option maxHeartbeats 1000000 in
theorem setAttr_may {w : World} {base bA bS g cap : Nat} {ns : List NodeM} (h : Ar w base bA bS g cap ns) (k : Int) (x : AttrM) (hm : mayAttrM ns k ≠ 0) :
    Calls Try.prog 43 #[.pointer (some ⟨bA, 0, none⟩), .int .i64 k, x.agg] w fun e w' => e = .returned (.int .i64 (mayAttrM ns k)) ∧ Below w.heap.size w w' := by
  have HM := hide (mayAttr_any (h.alloc (.cells (xCells x) 29)) k)
  have HB := hide ((Below.refl _ w).alloc (Nat.le_refl _) (.cells (xCells x) 29))
  generalize mayAttrM ns k = e at *
  have he : (e != 0) = true := by simpa using hm
  unfold xCells at HM HB
  unfold AttrM.agg
  clear h hm
  go_enter Try.func43, Try.ntmps43
  go_wp2_with (go_at_call 96; refine (unhide HM).mono ?_; rintro e w' ⟨rfl, rfl⟩)
  go_ret
  exact ⟨rfl, unhide HB⟩

set_option maxHeartbeats 1000000 in
theorem setAttr_long {w : World} {base bA bS g cap : Nat} {ns : List NodeM} (h : Ar w base bA bS g cap ns) (k : Int) (x : AttrM) (hm : mayAttrM ns k = 0) (hx : x.long = true) :
    Calls Try.prog 43 #[.pointer (some ⟨bA, 0, none⟩), .int .i64 k, x.agg] w fun e w' => e = .returned (.int .i64 2) ∧ Below w.heap.size w w' := by
  have HM := hide (mayAttr_any (h.alloc (.cells (xCells x) 29)) k)
  have HB := hide ((Below.refl _ w).alloc (Nat.le_refl _) (.cells (xCells x) 29))
  have HL := hide (isLongAttr_any x (w.alloc (.cells (xCells x) 29)))
  rw [hm] at HM
  rw [hx] at HL
  unfold xCells at HM HB HL
  unfold AttrM.agg at HL ⊢
  clear h hm hx
  go_enter Try.func43, Try.ntmps43
  go_wp2_with (first
    | (go_at_call 96; refine (unhide HM).mono ?_; rintro e w' ⟨rfl, rfl⟩)
    | (go_at_call 97; refine (unhide HL).mono ?_; rintro e w' ⟨rfl, hb⟩))
  go_ret
  exact ⟨rfl, (unhide HB).trans (hb.mono (by simp))⟩

theorem mayAttr_elem {ns : List NodeM} {i : Nat} {n : NodeM} (hi : ns[i]? = some n) (hk : n.kind = 1) : mayAttrM ns i = 0 := by
  have hlt : i < ns.length := (List.getElem?_eq_some_iff.1 hi).1
  have h1 : hasM ns i = true := by simp [hasM, hlt]
  unfold mayAttrM
  rw [h1, if_neg (by simp), Int.toNat_natCast, hi]
  simp [hk]

set_option maxHeartbeats 2000000 in
theorem setAttr_found {w : World} {base bA bS g cap : Nat} {ns : List NodeM} (h : Ar w base bA bS g cap ns) (i : Nat) (n : NodeM) (hi : ns[i]? = some n) (hk : n.kind = 1) (x : AttrM) (hx : x.long = false) (j : Nat) (hj : idxM (sameKey x.space x.name) n.attrs = j) :
    Calls Try.prog 43 #[.pointer (some ⟨bA, 0, none⟩), .int .i64 i, x.agg] w fun e w' => e = .returned (.int .i64 0) ∧
      Ar w' base bA bS g cap (ns.set i { n with attrs := setVal n.attrs j x.val }) ∧ Mod (fun k => n.av.ownBlock = some k) w w' := by
  have hlt : i < ns.length := (List.getElem?_eq_some_iff.1 hi).1
  have hmost := h.most
  have hmay : mayAttrM ns i = 0 := mayAttr_elem hi hk
  obtain ⟨j', hj', hjl⟩ := idxM_lt (p := sameKey x.space x.name) (l := n.attrs) (by rw [hj]; omega)
  obtain rfl : j = j' := by omega
  obtain ⟨y, hy⟩ : ∃ y, n.attrs[j]? = some y := ⟨_, List.getElem?_eq_getElem hjl⟩
  have hfew := h.few i n hi
  obtain ⟨ga, oa, cp, hav, hcp, _⟩ := (h.attrs i n hi).form (by omega)
  have HM := hide (mayAttr_any (h.alloc (.cells (xCells x) 29)) i)
  have HL := hide (isLongAttr_any x (w.alloc (.cells (xCells x) 29)))
  rw [hmay] at HM
  rw [hx] at HL
  have HA := hide h
  have HI := hide hi
  have HY := hide hy
  have HV := hide hav
  have HJ := hide hj
  unfold xCells at HM HL
  unfold AttrM.agg at HL ⊢
  clear h hi hy hav hj hj' hmay hx hk
  go_enter Try.func43, Try.ntmps43
  go_wp2_with (first
    | (go_at_call 96; refine (unhide HM).mono ?_; rintro e w' ⟨rfl, rfl⟩))
  refine (unhide HL).mono ?_
  rintro e w2 ⟨rfl, hb2⟩
  have har2 := ((unhide HA).alloc (.cells (xCells x) 29)).below hb2
  have hA2 := har2.cA
  have hS2 := har2.cS
  have c3 := (har2.cells12 (unhide HI)).2.2.2.1
  rw [unhide HV] at c3
  obtain ⟨bc, bf⟩ := bcell hb2
  simp at bc bf
  have hin2 : AttrsIn w2 (some ⟨ga, oa, none⟩) n.attrs := by
    obtain ⟨a', c', e, hin⟩ := seg_attrs (har2.attrs i n (unhide HI))
    rw [unhide HV] at e
    simp at e
    rw [e.1]; exact hin
  have HF := hide (findAttr_any w2 (some ⟨ga, oa, none⟩) cp n.attrs hin2 (by unfold maxLen; omega) x.space x.name)
  rw [unhide HJ] at HF
  have sz2 : w.heap.size < w2.heap.size := by have := hb2.size; simp at this; omega
  have HB2 := hide hb2
  have HA2 := hide har2
  clear hb2 har2 hin2
  go_wp2_with fail
  refine (unhide HF).mono ?_
  rintro e w3 ⟨rfl, hb3⟩
  have har3 := (unhide HA2).below hb3
  have hrow := har3.attrs i n (unhide HI)
  rw [unhide HV] at hrow
  have hfz := hrow.frozenAt (oa + j * 4 + 3)
  obtain ⟨v0, hc0⟩ : ∃ v0, w3.cell? ⟨ga, oa + j * 4 + 3, none⟩ = some v0 := by
    rw [Nat.add_assoc, hrow.cellAt (j * 4 + 3) (by omega)]
    exact ⟨_, List.getElem?_eq_getElem (by rw [show (attrRow n.attrs).length = n.attrs.length * 4 from flat_len AttrM.cells 4 attr_len _]; omega)⟩
  obtain ⟨bc3, bf3⟩ := bcell hb3
  have x3 : w3.cell? ⟨w.heap.size, 3, none⟩ = some (.string x.val) := by rw [bc3 _ _ sz2, bc _ _ (by omega)]; simp
  have hst := hrow.stored (j * 4 + 3) (by omega) (.string x.val)
  rw [← Nat.add_assoc] at hst
  have hrow4 : Seg ((w3.setCell ⟨ga, oa + j * 4 + 3, none⟩ (.string x.val))) base n.av (setVal n.attrs j x.val).length (attrRow (setVal n.attrs j x.val)) := by
    rw [setVal_len, unhide HV, setVal_of (unhide HY), attrRow, ← flat_set AttrM.cells 4 attr_len n.attrs j 3 (by omega) y { y with val := x.val } (.string x.val) (unhide HY) (by simp [AttrM.cells])]
    exact hst.1
  have har4 := har3.attrsOnly (unhide HI) (setVal n.attrs j x.val) (by rw [setVal_len]; exact hfew) hrow4 (by rw [unhide HV]; exact hst.2) (fun k _ hne => Below.heap_setCell _ _ _ _ (fun e => hne (by rw [unhide HV]; simp [Value.ownBlock]; exact e.symm)))
  have HM4 := hide (show Mod (fun k => n.av.ownBlock = some k) w (w3.setCell ⟨ga, oa + j * 4 + 3, none⟩ (.string x.val)) from
    ((Mod.of_below ((Below.refl _ w).alloc (Nat.le_refl _) _)).trans ((Mod.of_below (unhide HB2)).trans (Mod.of_below hb3))).trans (Mod.setCell (F := fun k => n.av.ownBlock = some k) w3 ⟨ga, oa + j * 4 + 3, none⟩ _ (by rw [unhide HV]; rfl)))
  have HA4 := hide har4
  clear har3 hrow hst hrow4 har4 hb3 bc3 bf3 bc bf
  go_wp2
  go_ret
  exact ⟨rfl, unhide HA4, unhide HM4⟩

set_option maxRecDepth 100000 in
set_option maxHeartbeats 2000000 in
theorem setAttr_many {w : World} {base bA bS g cap : Nat} {ns : List NodeM} (h : Ar w base bA bS g cap ns) (i : Nat) (n : NodeM) (hi : ns[i]? = some n) (hk : n.kind = 1) (x : AttrM) (hx : x.long = false) (hj : idxM (sameKey x.space x.name) n.attrs = -1) (hmany : ¬ n.attrs.length < 1024) :
    Calls Try.prog 43 #[.pointer (some ⟨bA, 0, none⟩), .int .i64 i, x.agg] w fun e w' => e = .returned (.int .i64 2) ∧ Below w.heap.size w w' := by
  have hmany' : (1024 : Int) ≤ (n.attrs.length : Int) := by omega
  have hlt : i < ns.length := (List.getElem?_eq_some_iff.1 hi).1
  have hmost := h.most
  have hmay : mayAttrM ns i = 0 := mayAttr_elem hi hk
  have hfew := h.few i n hi
  obtain ⟨ao, cp, hav, _⟩ := seg_attrs (h.attrs i n hi)
  have HM := hide (mayAttr_any (h.alloc (.cells (xCells x) 29)) i)
  have HL := hide (isLongAttr_any x (w.alloc (.cells (xCells x) 29)))
  rw [hmay] at HM
  rw [hx] at HL
  have HA := hide h
  have HI := hide hi
  have HV := hide hav
  have HJ := hide hj
  unfold xCells at HM HL
  unfold AttrM.agg at HL ⊢
  clear h hi hav hj hmay hx hk
  go_enter Try.func43, Try.ntmps43
  go_wp2_with (first
    | (go_at_call 96; refine (unhide HM).mono ?_; rintro e w' ⟨rfl, rfl⟩))
  refine (unhide HL).mono ?_
  rintro e w2 ⟨rfl, hb2⟩
  have har2 := ((unhide HA).alloc (.cells (xCells x) 29)).below hb2
  have hA2 := har2.cA
  have hS2 := har2.cS
  have c3 := (har2.cells12 (unhide HI)).2.2.2.1
  rw [unhide HV] at c3
  obtain ⟨bc, bf⟩ := bcell hb2
  simp at bc bf
  have hin2 : AttrsIn w2 ao n.attrs := by
    obtain ⟨a', c', e, hin⟩ := seg_attrs (har2.attrs i n (unhide HI))
    rw [unhide HV] at e
    simp at e
    rw [e.1]; exact hin
  have HF := hide (findAttr_any w2 ao cp n.attrs hin2 (by unfold maxLen; omega) x.space x.name)
  rw [unhide HJ] at HF
  have sz2 : w.heap.size < w2.heap.size := by have := hb2.size; simp at this; omega
  have HB2 := hide hb2
  clear hb2 har2 hin2
  go_wp2_with fail
  refine (unhide HF).mono ?_
  rintro e w3 ⟨rfl, hb3⟩
  have HB3 := hide hb3
  clear hb3 hmany hfew
  go_wp2
  go_ret
  exact ⟨rfl, (((Below.refl _ w).alloc (Nat.le_refl _) _).trans ((unhide HB2).mono (by simp))).trans ((unhide HB3).mono (by omega))⟩

theorem setAttr_close {w w3 w4 : World} {base bA bS g cap : Nat} {ns : List NodeM} (hb : Below w.heap.size w w3) (h : Ar w3 base bA bS g cap ns) {i : Nat} {n : NodeM} (hi : ns[i]? = some n) (x : AttrM) (hmany : n.attrs.length < 1024)
    {ao : Option Addr} {cp : Nat} (hav : n.av = .slice ao n.attrs.length cp) {o : Obj} {g' o' cp' : Nat}
    (hown : Seg w4 base (.slice (some ⟨g', o', none⟩) (n.attrs.length + 1) cp') (n.attrs.length + 1) (attrRow n.attrs ++ x.cells)) (hgrow : (w3.alloc o).drew.grownBy w4 (Value.slice ao n.attrs.length cp).ownBlock)
    (hout : Out (Value.slice ao n.attrs.length cp) (w3.alloc o).drew w4)
    (hat : (∃ m, Value.slice ao n.attrs.length cp = .slice (some ⟨g', o', none⟩) m cp') ∨ g' = w3.heap.size + 1) :
    ∃ av, Ar (w4.setCell ⟨g, i * 12 + 3, none⟩ (.slice (some ⟨g', o', none⟩) (n.attrs.length + 1) cp')) base bA bS g cap (ns.set i { n with av := av, attrs := n.attrs ++ [x] }) ∧
      Mod (fun k => n.av.ownBlock = some k ∨ k = g) w (w4.setCell ⟨g, i * 12 + 3, none⟩ (.slice (some ⟨g', o', none⟩) (n.attrs.length + 1) cp')) ∧ (∀ k, av.ownBlock = some k → n.av.ownBlock = some k ∨ w.heap.size ≤ k) := by
  have hrow : attrRow (n.attrs ++ [x]) = attrRow n.attrs ++ x.cells := by simp [attrRow]
  have hsz := hb.size
  have hnew : ∀ k, (Value.slice (some ⟨g', o', none⟩) (n.attrs.length + 1) cp').ownBlock = some k → n.av.ownBlock = some k ∨ w3.heap.size ≤ k := by
    intro k hk
    simp [Value.ownBlock] at hk; subst hk
    rcases hat with ⟨m, e⟩ | e
    · exact .inl (by rw [hav, e]; rfl)
    · exact .inr (by omega)
  have hold : ∀ k, foot bA bS g ns k → n.av.ownBlock ≠ some k → w4.heap[k]? = w3.heap[k]? := by
    intro k hk hne
    have hlt := (h.foot_lt hk).2
    rw [hgrow.block k (by simp; omega) (by rw [← hav]; exact fun e => hne e.symm)]
    exact Below.heap_alloc w3 o k hlt
  have hout' : Out n.av w3 w4 := by
    rw [← hav] at hout
    exact (Out.same (fun k hk => Below.heap_alloc w3 o k ((h.attrs i n hi).lt k hk).2)).trans hout
  refine ⟨_, h.newAttrs hi _ (n.attrs ++ [x]) (by simp; omega) (by rw [hrow]; simpa using hown) hout' hold hnew ?_, ?_, ?_⟩
  · intro k o2 m c e hk
    cases e
    rcases hat with ⟨m, e⟩ | e
    · exact ⟨m, hav.trans e⟩
    · omega
  · refine (Mod.of_below hb).trans (Mod.trans ?_ (Mod.setCell _ _ _ (.inr rfl)))
    exact (Mod.of_below (((Below.refl _ w3).alloc (Nat.le_refl _) o).drew)).trans (Mod.grown hgrow (fun k hk => .inl (by rw [hav]; exact hk)))
  · intro k hk
    exact (hnew k hk).imp id (fun h => by omega)

set_option maxRecDepth 100000 in
set_option maxHeartbeats 4000000 in
theorem setAttr_new {w : World} {base bA bS g cap : Nat} {ns : List NodeM} (h : Ar w base bA bS g cap ns) (i : Nat) (n : NodeM) (hi : ns[i]? = some n) (hk : n.kind = 1) (x : AttrM) (hx : x.long = false) (hj : idxM (sameKey x.space x.name) n.attrs = -1) (hmany : n.attrs.length < 1024) :
    Calls Try.prog 43 #[.pointer (some ⟨bA, 0, none⟩), .int .i64 i, x.agg] w fun e w' => e = .returned (.int .i64 0) ∧
      ∃ av, Ar w' base bA bS g cap (ns.set i { n with av := av, attrs := n.attrs ++ [x] }) ∧ Mod (fun k => n.av.ownBlock = some k ∨ k = g) w w' ∧ (∀ k, av.ownBlock = some k → n.av.ownBlock = some k ∨ w.heap.size ≤ k) := by
  have hlt : i < ns.length := (List.getElem?_eq_some_iff.1 hi).1
  have hmost := h.most
  have hmay : mayAttrM ns i = 0 := mayAttr_elem hi hk
  obtain ⟨ao, cp, hav, _⟩ := seg_attrs (h.attrs i n hi)
  have HM := hide (mayAttr_any (h.alloc (.cells (xCells x) 29)) i)
  have HL := hide (isLongAttr_any x (w.alloc (.cells (xCells x) 29)))
  rw [hmay] at HM
  rw [hx] at HL
  have HA := hide h
  have HI := hide hi
  have HV := hide hav
  have HJ := hide hj
  unfold xCells at HM HL
  unfold AttrM.agg at HL ⊢
  clear h hi hav hj hmay hx hk
  obtain ⟨i0, hi0, hz0, hz1, hz2⟩ := info_parts Try.info29
  go_enter Try.func43, Try.ntmps43
  go_wp2_with (first
    | (go_at_call 96; refine (unhide HM).mono ?_; rintro e w' ⟨rfl, rfl⟩))
  refine (unhide HL).mono ?_
  rintro e w2 ⟨rfl, hb2⟩
  have har2 := ((unhide HA).alloc (.cells (xCells x) 29)).below hb2
  have hA2 := har2.cA
  have hS2 := har2.cS
  have c3 := (har2.cells12 (unhide HI)).2.2.2.1
  rw [unhide HV] at c3
  obtain ⟨bc, bf⟩ := bcell hb2
  simp at bc bf
  have hin2 : AttrsIn w2 ao n.attrs := by
    obtain ⟨a', c', e, hin⟩ := seg_attrs (har2.attrs i n (unhide HI))
    rw [unhide HV] at e
    simp at e
    rw [e.1]; exact hin
  have HF := hide (findAttr_any w2 ao cp n.attrs hin2 (by unfold maxLen; omega) x.space x.name)
  rw [unhide HJ] at HF
  have sz2 : w.heap.size < w2.heap.size := by have := hb2.size; simp at this; omega
  have HB2 := hide hb2
  have HA2 := hide har2
  clear hb2 har2 hin2
  go_wp2_with fail
  refine (unhide HF).mono ?_
  rintro e w3 ⟨rfl, hb3⟩
  have har3 := (unhide HA2).below hb3
  have hA3 := har3.cA
  have hS3 := har3.cS
  have ltA := har3.lt.1
  have ltS := har3.lt.2.1
  have ltg := har3.lt.2.2
  have hfg := har3.fg (i * 12 + 3)
  obtain ⟨bc3, bf3⟩ := bcell hb3
  have x0 : w3.cell? ⟨w.heap.size, 0, none⟩ = some (.int .i64 x.space) := by rw [bc3 _ _ sz2, bc _ _ (by omega)]; simp
  have x1 : w3.cell? ⟨w.heap.size, 1, none⟩ = some (.string x.pre) := by rw [bc3 _ _ sz2, bc _ _ (by omega)]; simp
  have x2 : w3.cell? ⟨w.heap.size, 2, none⟩ = some (.string x.name) := by rw [bc3 _ _ sz2, bc _ _ (by omega)]; simp
  have x3 : w3.cell? ⟨w.heap.size, 3, none⟩ = some (.string x.val) := by rw [bc3 _ _ sz2, bc _ _ (by omega)]; simp
  have sz3 : w.heap.size < w3.heap.size := by have := hb3.size; omega
  have hown3 := har3.attrs i n (unhide HI)
  rw [unhide HV] at hown3
  have g3 := (har3.cells12 (unhide HI)).2.2.2.1
  rw [unhide HV] at g3
  have neg : ¬ (Value.slice ao n.attrs.length cp).ownBlock = some g := by have := (har3.neAttr (unhide HI)).1; rw [unhide HV] at this; exact this
  have neS : ¬ (Value.slice ao n.attrs.length cp).ownBlock = some bS := by have := (har3.neAttr (unhide HI)).2.1; rw [unhide HV] at this; exact this
  have neA : ¬ (Value.slice ao n.attrs.length cp).ownBlock = some bA := by have := (har3.neAttr (unhide HI)).2.2; rw [unhide HV] at this; exact this
  have HOW := hide hown3
  have HB3 := hide hb3
  have HA3 := hide har3
  clear hb3 har3 bc3 bf3 bc bf hown3 hA2 hS2 c3
  have hnews : ∀ o, o = .cells #[.int .i64 x.space, .string x.pre, .string x.name, .string x.val] 29 → ∀ j u, (AttrM.cells x)[j]? = some u → (w3.alloc o).drew.cell? ((⟨w3.heap.size, 0, none⟩ : Addr).add j) = some u := by
    rintro o rfl
    exact World.news_of_block (w := (w3.alloc (.cells #[.int .i64 x.space, .string x.pre, .string x.name, .string x.val] 29)).drew) (heap_alloc_new w3 _)
  have hbx : ∀ o, Below w3.heap.size w3 (w3.alloc o).drew := fun o => ((Below.refl _ w3).alloc (Nat.le_refl _) o).drew
  have HNW := hide hnews
  have HBX := hide hbx
  clear hnews hbx
  go_wp2_with fail
  go_region_law ((refine step_seg_append (by rfl) _ _ (by rfl) base (.slice ao n.attrs.length cp) n.attrs.length (attrRow n.attrs) (by rfl) (by exact ((unhide HOW).alloc _).drew) ⟨w3.heap.size, 0, none⟩ 1 x.cells (by rfl) (by rfl) (by exact ((unhide HNW) _ rfl)) (by simp [AttrM.cells, Value.oneCell']) (by omega) (by have h1 := (unhide HA3).lo1; simp; omega) (w3.heap.size + 1) (by simp) ?_; intro g' o' cp' w4 hown4 hgrow hout hat hlt4; have HOU := hide hout; clear hout; have hA4 : w4.cell? ⟨bA, 0, none⟩ = some (.pointer (some ⟨bS, 0, none⟩)) := ((hgrow.cell_far ⟨bA, 0, none⟩ (by simp; omega) (fun e => neA e.symm)).trans (((unhide HBX _).cell (p := ⟨bA, 0, none⟩) ltA).trans hA3)); have hS4 : w4.cell? ⟨bS, 0, none⟩ = some (.slice (some ⟨g, 0, none⟩) ns.length cap) := ((hgrow.cell_far ⟨bS, 0, none⟩ (by simp; omega) (fun e => neS e.symm)).trans (((unhide HBX _).cell (p := ⟨bS, 0, none⟩) ltS).trans hS3)); have hG4 : w4.cell? ⟨g, i * 12 + 3, none⟩ = some (.slice ao n.attrs.length cp) := ((hgrow.cell_far ⟨g, i * 12 + 3, none⟩ (by simp; omega) (fun e => neg e.symm)).trans (((unhide HBX _).cell (p := ⟨g, i * 12 + 3, none⟩) ltg).trans g3)); have hFz4 : w4.frozen? ⟨g, i * 12 + 3, none⟩ = false := ((hgrow.frozen_far ⟨g, i * 12 + 3, none⟩ (by simp; omega) (fun e => neg e.symm)).trans (((unhide HBX _).frozen (p := ⟨g, i * 12 + 3, none⟩) ltg).trans hfg))))
  all_goals go_wp2
  all_goals go_ret
  all_goals exact ⟨rfl, setAttr_close (((Below.refl _ w).alloc (Nat.le_refl _) _).trans (((unhide HB2).mono (by simp)).trans ((unhide HB3).mono (by omega)))) (unhide HA3) (unhide HI) x hmany (unhide HV) hown4 hgrow (unhide HOU) hat⟩
end Go.Proofs.Ytlbkoafeedlfaaa

namespace Go.Proofs.Ytlbkoafeedlfaaa
open Go.RowKit

set_option maxHeartbeats 1000000 in
theorem delAttr_may {w : World} {base bA bS g cap : Nat} {ns : List NodeM} (h : Ar w base bA bS g cap ns) (k space : Int) (name : ByteArray) (hm : mayAttrM ns k ≠ 0) :
    Calls Try.prog 45 #[.pointer (some ⟨bA, 0, none⟩), .int .i64 k, .int .i64 space, .string name] w fun e w' => e = .returned (.int .i64 (mayAttrM ns k)) ∧ w = w' := by
  have HM := hide (mayAttr_any h k)
  generalize mayAttrM ns k = e at *
  have he : (e != 0) = true := by simpa using hm
  clear h hm
  go_enter Try.func45, Try.ntmps45
  go_wp2_with (go_at_call 96; refine (unhide HM).mono ?_; rintro e w' ⟨rfl, rfl⟩)
  go_ret
  exact ⟨rfl, rfl⟩

set_option maxHeartbeats 2000000 in
theorem delAttr_none {w : World} {base bA bS g cap : Nat} {ns : List NodeM} (h : Ar w base bA bS g cap ns) (i : Nat) (n : NodeM) (hi : ns[i]? = some n) (hk : n.kind = 1) (space : Int) (name : ByteArray) (hj : idxM (sameKey space name) n.attrs = -1) :
    Calls Try.prog 45 #[.pointer (some ⟨bA, 0, none⟩), .int .i64 i, .int .i64 space, .string name] w fun e w' => e = .returned (.int .i64 1) ∧ Below w.heap.size w w' := by
  have hlt : i < ns.length := (List.getElem?_eq_some_iff.1 hi).1
  have hmost := h.most
  have hfew := h.few i n hi
  have HM := hide (mayAttr_any h i)
  rw [mayAttr_elem hi hk] at HM
  obtain ⟨ao, cp, hav, hin⟩ := seg_attrs (h.attrs i n hi)
  have HF := hide (findAttr_any w ao cp n.attrs hin (by unfold maxLen; omega) space name)
  rw [hj] at HF
  have hA := h.cA
  have hS := h.cS
  have c3 := (h.cells12 hi).2.2.2.1
  rw [hav] at c3
  clear h hi hav hin hj hk
  go_enter Try.func45, Try.ntmps45
  go_wp2_with (first
    | (go_at_call 96; refine (unhide HM).mono ?_; rintro e w' ⟨rfl, rfl⟩)
    | (go_at_call 98; refine (unhide HF).mono ?_; rintro e w' ⟨rfl, hb⟩))
  go_ret
  exact ⟨rfl, hb⟩

theorem delAttr_close {w w3 w4 : World} {base bA bS g cap : Nat} {ns : List NodeM} (hb : Below w.heap.size w w3) (h : Ar w3 base bA bS g cap ns) {i : Nat} {n : NodeM} (hi : ns[i]? = some n) {ga oa cp N j : Nat} (hN : N < 1024) (hlen : n.attrs.length = N + 1) (hj : j ≤ N)
    (hav : n.av = .slice (some ⟨ga, oa, none⟩) (N + 1) cp) (hown : Seg w4 base (.slice (some ⟨ga, oa, none⟩) N cp) N (attrRow (n.attrs.eraseIdx j))) (hgrow : w3.drew.grownBy w4 (some ga)) (hout : Out (.slice (some ⟨ga, oa, none⟩) (N + 1) cp) w3 w4) :
    Ar (w4.setCell ⟨g, i * 12 + 3, none⟩ (.slice (some ⟨ga, oa, none⟩) N cp)) base bA bS g cap (ns.set i { n with av := .slice (some ⟨ga, oa, none⟩) N cp, attrs := n.attrs.eraseIdx j }) ∧
      Mod (fun k => n.av.ownBlock = some k ∨ k = g) w (w4.setCell ⟨g, i * 12 + 3, none⟩ (.slice (some ⟨ga, oa, none⟩) N cp)) := by
  have hl : (n.attrs.eraseIdx j).length = N := by rw [List.length_eraseIdx_of_lt (by omega), hlen]; rfl
  refine ⟨h.newAttrs hi _ _ (by rw [hl]; omega) (by rw [hl]; exact hown) (by rw [hav]; exact hout) ?_ ?_ ?_, ?_⟩
  · intro k hk hne
    rw [hgrow.block k (h.foot_lt hk).2 (fun e => hne (by rw [hav]; simp [Value.ownBlock] at e ⊢; exact e.symm))]
    rfl
  · intro k hk
    exact .inl (by rw [hav]; simpa [Value.ownBlock] using hk)
  · intro k o m c e _
    cases e
    exact ⟨_, hav⟩
  · refine (Mod.of_below hb).trans (Mod.trans ?_ (Mod.setCell _ _ _ (.inr rfl)))
    exact (Mod.of_below (Below.refl _ w3).drew).trans (Mod.grown hgrow (fun k hk => .inl (by rw [hav]; simpa [Value.ownBlock] using hk)))

end Go.Proofs.Ytlbkoafeedlfaaa

namespace Go.Proofs.Ytlbkoafeedlfaaa
open Go.RowKit

set_option maxRecDepth 100000 in
set_option maxHeartbeats 1000000 in
theorem delAttr_found {w : World} {base bA bS g cap : Nat} {ns : List NodeM} (h : Ar w base bA bS g cap ns) (i : Nat) (n : NodeM) (hi : ns[i]? = some n) (hk : n.kind = 1) (space : Int) (name : ByteArray) (j : Nat) (hj : idxM (sameKey space name) n.attrs = j) :
    Calls Try.prog 45 #[.pointer (some ⟨bA, 0, none⟩), .int .i64 i, .int .i64 space, .string name] w fun e w' => e = .returned (.int .i64 0) ∧
      ∃ av, Ar w' base bA bS g cap (ns.set i { n with av := av, attrs := n.attrs.eraseIdx j }) ∧ Mod (fun k => n.av.ownBlock = some k ∨ k = g) w w' ∧ (∀ k, av.ownBlock = some k → n.av.ownBlock = some k ∨ w.heap.size ≤ k) := by
  have hlt : i < ns.length := (List.getElem?_eq_some_iff.1 hi).1
  have hmost := h.most
  have hfew := h.few i n hi
  obtain ⟨j', hj', hjl⟩ := idxM_lt (p := sameKey space name) (l := n.attrs) (by rw [hj]; omega)
  obtain rfl : j = j' := by omega
  obtain ⟨N, hN⟩ : ∃ N, n.attrs.length = N + 1 := ⟨n.attrs.length - 1, by omega⟩
  have HM := hide (mayAttr_any h i)
  rw [mayAttr_elem hi hk] at HM
  obtain ⟨ga, oa, cp, hav, _⟩ := (h.attrs i n hi).form (by omega)
  rw [hN] at hav
  have hin : AttrsIn w (some ⟨ga, oa, none⟩) n.attrs := by
    obtain ⟨a', c', e, hin⟩ := seg_attrs (h.attrs i n hi)
    rw [hav] at e
    simp at e
    rw [e.1]; exact hin
  have HF := hide (findAttr_any w (some ⟨ga, oa, none⟩) cp n.attrs hin (by unfold maxLen; omega) space name)
  rw [hj, hN] at HF
  have hA := h.cA
  have hS := h.cS
  have c3 := (h.cells12 hi).2.2.2.1
  rw [hav] at c3
  have HA := hide h
  have HI := hide hi
  have HV := hide hav
  have HL := hide hN
  have hjN : j ≤ N := by omega
  have hN1 : N < 1024 := by omega
  have hwrap : IntKind.i64.wrap ((j : Int) + 1) = (j : Int) + 1 := by simp [IntKind.wrap, IntKind.bits, IntKind.signed]; omega
  clear h hi hav hin hj hj' hk hfew hN hjl
  go_enter Try.func45, Try.ntmps45
  go_wp2_with (first
    | (go_at_call 96; refine (unhide HM).mono ?_; rintro e w' ⟨rfl, rfl⟩))
  refine (unhide HF).mono ?_
  rintro e w3 ⟨rfl, hb3⟩
  have har3 := (unhide HA).below hb3
  have hA3 := har3.cA
  have hS3 := har3.cS
  have ltA := har3.lt.1
  have ltS := har3.lt.2.1
  have ltg := har3.lt.2.2
  have hfg := har3.fg (i * 12 + 3)
  have g3 := (har3.cells12 (unhide HI)).2.2.2.1
  rw [unhide HV] at g3
  have hown3 := har3.attrs i n (unhide HI)
  rw [unhide HV, unhide HL] at hown3
  have neg : ¬ g = ga := by have := (har3.neAttr (unhide HI)).1; rw [unhide HV] at this; simp [Value.ownBlock] at this; omega
  have neS : ¬ bS = ga := by have := (har3.neAttr (unhide HI)).2.1; rw [unhide HV] at this; simp [Value.ownBlock] at this; omega
  have neA : ¬ bA = ga := by have := (har3.neAttr (unhide HI)).2.2; rw [unhide HV] at this; simp [Value.ownBlock] at this; omega
  have HD := hide (delete_any (w := w3.drew) n.attrs (unhide HL) hown3.drew j hjN hN1)
  have HB3 := hide hb3
  have HA3 := hide har3
  clear hb3 har3 hown3 hA hS c3
  go_wp2_with fail
  go_region_with (go_at_call 100; refine (unhide HD).mono ?_; rintro e w4 ⟨rfl, hown4, hgrow, hout⟩; have HU4 := hide hout; clear hout; have hA4 : w4.cell? ⟨bA, 0, none⟩ = some (.pointer (some ⟨bS, 0, none⟩)) := ((hgrow.cell_far ⟨bA, 0, none⟩ (by simp; omega) (by simp; omega)).trans hA3); have hS4 : w4.cell? ⟨bS, 0, none⟩ = some (.slice (some ⟨g, 0, none⟩) ns.length cap) := ((hgrow.cell_far ⟨bS, 0, none⟩ (by simp; omega) (by simp; omega)).trans hS3); have hG4 : w4.cell? ⟨g, i * 12 + 3, none⟩ = some (.slice (some ⟨ga, oa, none⟩) (N + 1) cp) := ((hgrow.cell_far ⟨g, i * 12 + 3, none⟩ (by simp; omega) (by simp; omega)).trans g3); have hFz4 : w4.frozen? ⟨g, i * 12 + 3, none⟩ = false := ((hgrow.frozen_far ⟨g, i * 12 + 3, none⟩ (by simp; omega) (by simp; omega)).trans hfg); have HO4 := hide hown4; have HG4 := hide hgrow; clear hown4 hgrow)
  all_goals go_wp2
  all_goals go_ret
  all_goals
    have R := delAttr_close (unhide HB3) (unhide HA3) (unhide HI) hN1 (unhide HL) hjN (unhide HV) (unhide HO4) (unhide HG4) (unhide HU4)
    exact ⟨rfl, _, R.1, R.2, fun k hk => .inl (by rw [unhide HV]; simpa [Value.ownBlock] using hk)⟩
end Go.Proofs.Ytlbkoafeedlfaaa
