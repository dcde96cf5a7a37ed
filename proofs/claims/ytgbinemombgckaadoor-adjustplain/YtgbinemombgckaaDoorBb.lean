/-
  Package adjust: a new list of what a closure makes of each attribute.
-/
import Derived.Test.YtgbinemombgckaaDoorBa
import Derived.Shelf.GgClosure.Gives
namespace Go.Proofs.YtgbinemombgckaaDoor
open Go.RowKit Go.Lib

theorem AttrM.eta (x : AttrM) : ∃ s p n v, x = ⟨s, p, n, v⟩ := ⟨_, _, _, _, rfl⟩
theorem cells_new (w : World) (x : AttrM) (t : TypeId) : ∀ j u, x.cells[j]? = some u → (w.alloc (.cells #[.int .i64 x.space, .string x.pre, .string x.name, .string x.val] t)).cell? ((⟨w.heap.size, 0, none⟩ : Addr).add j) = some u := by
  intro j u hu
  have hadd : (⟨w.heap.size, 0, none⟩ : Addr).add j = ⟨w.heap.size, j, none⟩ := by unfold Addr.add; split <;> simp_all
  rw [hadd, cell_row _ w.heap.size j _ _ _ (heap_alloc_new w _)]
  rw [← hu, ← Array.getElem?_toList]
  rfl
theorem take_snoc {α : Type} {l : List α} {i : Nat} {x : α} (h : l[i]? = some x) (f : α → AttrM) : (l.take (i + 1)).map f = (l.take i).map f ++ [f x] := by
  have hi : i < l.length := (List.getElem?_eq_some_iff.1 h).1
  rw [List.getElem?_eq_getElem hi] at h
  injection h with h
  rw [List.take_succ_eq_append_getElem hi, List.map_append, h]
  rfl
/-- One more attribute at the list's end. -/
theorem own_snoc {w w' : World} {l : List AttrM} {f : AttrM → AttrM} {i : Nat} {x y : AttrM} {g cp : Nat} (hx : l[i]? = some x) (hy : f x = y)
    (h : w'.ownsRow w.heap.size 29 4 (.slice (some ⟨g, 0, none⟩) (i + 1) cp) (i + 1) (attrRow ((l.take i).map f) ++ y.cells)) : w'.ownsRow w.heap.size 29 4 (.slice (some ⟨g, 0, none⟩) (i + 1) cp) (i + 1) (attrRow ((l.take (i + 1)).map f)) := by
  rw [take_snoc hx, attrRow_snoc, hy]
  exact h

set_option maxHeartbeats 4000000 in
theorem each0_any (f : AttrM → AttrM) (g : Nat) (eg : ∀ args w, (callFunc g args).run Tryd.prog w = .ok (.enter g args) w) (l : List AttrM) (a : Option Addr) (cap : Nat) (w : World) (hin : AttrsIn w a l) (hl : l.length * 56 ≤ 140737488351232)
    (hp : ∀ W x, Below w.heap.size w W → Calls Tryd.prog g #[.agg #[.int .i64 x.space, .string x.pre, .string x.name, .string x.val]] W fun e w' => e = .returned (.agg #[.int .i64 (f x).space, .string (f x).pre, .string (f x).name, .string (f x).val]) ∧ Below W.heap.size W w') :
    Calls Tryd.prog 14 #[.slice a l.length cap, .func (.func g) #[] #[]] w fun e w' => ∃ ao cp, e = .returned (.slice ao l.length cp) ∧ AttrsIn w' ao (l.map f) ∧ Below w.heap.size w w' := by
  obtain ⟨i0, hi, hz0, hz1, hz2⟩ := info_parts infoA
  have HP := hide hp
  have HIN := hide hin
  have HL := hide hl
  have hlz : (l.length : Int) ≤ 140737488355328 := by omega
  clear hp hin hl
  go_enter Tryd.func14, Tryd.ntmps14
  go_wp2
  go_loopg [5, 7, 10] l.length (fun k s5 _ s10 wx => ∃ i : Nat, i + k = l.length ∧ s10 = .int .i64 i ∧ wx.ownsRow w.heap.size 29 4 s5 i (attrRow ((l.take i).map f)) ∧ Below w.heap.size w wx)
  case atStart => exact ⟨0, by omega, rfl, by simpa [attrRow] using World.ownsRow_nil _ _ _ _, Below.refl _ _⟩
  case round =>
    obtain ⟨i, hik, rfl, hown, hb⟩ := hrel
    have HB := hide hb
    by_cases hil : i < l.length
    · have hiz : (i : Int) < (l.length : Int) := by omega
      obtain ⟨x, hx⟩ : ∃ x, l[i]? = some x := ⟨_, List.getElem?_eq_getElem hil⟩
      obtain ⟨b, off, rfl, c0, c1, c2, c3⟩ := ((unhide HIN).below hb).cells i x hx
      have HX := hide hx
      have HOWN := hide hown
      clear hx hown hb
      obtain ⟨y, hy⟩ : ∃ y, f x = y := ⟨_, rfl⟩
      have hcall := fun W hW => (unhide HP) W x hW
      rw [hy] at hcall
      have HCALL := hide hcall
      have HY := hide hy
      clear hcall hy
      have HB1 : Hid (Below w.heap.size w (wr.alloc (.cells #[.int .i64 x.space, .string x.pre, .string x.name, .string x.val] 29))) := hide ((unhide HB).trans ((below_new wr _).mono (unhide HB).size))
      have HO1 : Hid ((wr.alloc (.cells #[.int .i64 x.space, .string x.pre, .string x.name, .string x.val] 29)).ownsRow w.heap.size 29 4 u5 i (attrRow ((l.take i).map f))) := hide (ownsRow_more (unhide HOWN) (below_new wr _))
      go_wp2_with (first
        | (go_at_fn g; refine (unhide HCALL _ (unhide HB1)).mono ?_; rintro e w1 ⟨rfl, hb1⟩; have HB2 := hide ((unhide HB1).trans (hb1.mono (unhide HB1).size)); have HO2 := hide (ownsRow_more (ownsRow_more (unhide HO1) hb1) (below_new w1 (.cells #[.int .i64 y.space, .string y.pre, .string y.name, .string y.val] 29))); have HB3 := hide ((unhide HB2).trans ((below_new w1 (.cells #[.int .i64 y.space, .string y.pre, .string y.name, .string y.val] 29)).mono (unhide HB2).size)); clear hb1)
        | (at_builtin; go_must (refine wpList_append_lies _ (by rfl) _ _ 22 (by rfl) w.heap.size 29 i0 _ 4 56 Tryd.underlying22 hi hz0 hz1 hz2 rfl (by omega) u5 i (attrRow ((l.take i).map f)) (by rfl) (unhide HO2) ⟨w1.heap.size, 0, none⟩ 1 1 y.cells (by rfl) (by rfl) (cells_new w1 y _) (by simp [AttrM.cells, Value.oneCell']) (by omega) (by unfold maxLen; omega) (by have := unhide HL; omega) (unhide HB3).size _ rfl ?_); intro g' cp w2 ho hgr hat hlt; have HO4 := hide (own_snoc (unhide HX) (unhide HY) ho); have HB4 := hide ((unhide HB3).grown hgr (unhide HB3).size (fun k hk => ownsRow_base (unhide HO2) hk.symm)); clear ho hgr hat hlt))
      go_roundg (gk - 1)
      case measure => omega
      case rel => exact ⟨i + 1, by omega, by go_num, unhide HO4, unhide HB4⟩
    · have hiz : ¬ (i : Int) < (l.length : Int) := by omega
      obtain rfl : i = l.length := by omega
      rw [List.take_length] at hown
      have hown2 : wr.ownsRow w.heap.size 29 4 u5 (l.map f).length (attrRow (l.map f)) := by rw [List.length_map]; exact hown
      obtain ⟨ao, cp, rfl, hat⟩ := ownsRow_attrs hown2
      rw [List.length_map]
      have HAT := hide hat
      clear hat hown hown2 hb
      go_wp2
      go_ret
      exact ⟨ao, ⟨cp, rfl⟩, unhide HAT, unhide HB⟩

set_option maxHeartbeats 4000000 in
theorem each1_any (f : AttrM → AttrM) (g : Nat) (B : Nat) (eg : ∀ args w, (callFunc g args).run Tryd.prog w = .ok (.enter g args) w) (l : List AttrM) (a : Option Addr) (cap : Nat) (w : World) (hin : AttrsIn w a l) (hl : l.length * 56 ≤ 140737488351232)
    (hp : ∀ W x, Below w.heap.size w W → Calls Tryd.prog g #[.agg #[.int .i64 x.space, .string x.pre, .string x.name, .string x.val], .pointer (some ⟨B, 0, none⟩)] W fun e w' => e = .returned (.agg #[.int .i64 (f x).space, .string (f x).pre, .string (f x).name, .string (f x).val]) ∧ Below W.heap.size W w') :
    Calls Tryd.prog 14 #[.slice a l.length cap, .func (.func g) #[] #[.pointer (some ⟨B, 0, none⟩)]] w fun e w' => ∃ ao cp, e = .returned (.slice ao l.length cp) ∧ AttrsIn w' ao (l.map f) ∧ Below w.heap.size w w' := by
  obtain ⟨i0, hi, hz0, hz1, hz2⟩ := info_parts infoA
  have HP := hide hp
  have HIN := hide hin
  have HL := hide hl
  have hlz : (l.length : Int) ≤ 140737488355328 := by omega
  clear hp hin hl
  go_enter Tryd.func14, Tryd.ntmps14
  go_wp2
  go_loopg [5, 7, 10] l.length (fun k s5 _ s10 wx => ∃ i : Nat, i + k = l.length ∧ s10 = .int .i64 i ∧ wx.ownsRow w.heap.size 29 4 s5 i (attrRow ((l.take i).map f)) ∧ Below w.heap.size w wx)
  case atStart => exact ⟨0, by omega, rfl, by simpa [attrRow] using World.ownsRow_nil _ _ _ _, Below.refl _ _⟩
  case round =>
    obtain ⟨i, hik, rfl, hown, hb⟩ := hrel
    have HB := hide hb
    by_cases hil : i < l.length
    · have hiz : (i : Int) < (l.length : Int) := by omega
      obtain ⟨x, hx⟩ : ∃ x, l[i]? = some x := ⟨_, List.getElem?_eq_getElem hil⟩
      obtain ⟨b, off, rfl, c0, c1, c2, c3⟩ := ((unhide HIN).below hb).cells i x hx
      have HX := hide hx
      have HOWN := hide hown
      clear hx hown hb
      obtain ⟨y, hy⟩ : ∃ y, f x = y := ⟨_, rfl⟩
      have hcall := fun W hW => (unhide HP) W x hW
      rw [hy] at hcall
      have HCALL := hide hcall
      have HY := hide hy
      clear hcall hy
      have HB1 : Hid (Below w.heap.size w (wr.alloc (.cells #[.int .i64 x.space, .string x.pre, .string x.name, .string x.val] 29))) := hide ((unhide HB).trans ((below_new wr _).mono (unhide HB).size))
      have HO1 : Hid ((wr.alloc (.cells #[.int .i64 x.space, .string x.pre, .string x.name, .string x.val] 29)).ownsRow w.heap.size 29 4 u5 i (attrRow ((l.take i).map f))) := hide (ownsRow_more (unhide HOWN) (below_new wr _))
      go_wp2_with (first
        | (go_at_fn g; refine (unhide HCALL _ (unhide HB1)).mono ?_; rintro e w1 ⟨rfl, hb1⟩; have HB2 := hide ((unhide HB1).trans (hb1.mono (unhide HB1).size)); have HO2 := hide (ownsRow_more (ownsRow_more (unhide HO1) hb1) (below_new w1 (.cells #[.int .i64 y.space, .string y.pre, .string y.name, .string y.val] 29))); have HB3 := hide ((unhide HB2).trans ((below_new w1 (.cells #[.int .i64 y.space, .string y.pre, .string y.name, .string y.val] 29)).mono (unhide HB2).size)); clear hb1)
        | (at_builtin; go_must (refine wpList_append_lies _ (by rfl) _ _ 22 (by rfl) w.heap.size 29 i0 _ 4 56 Tryd.underlying22 hi hz0 hz1 hz2 rfl (by omega) u5 i (attrRow ((l.take i).map f)) (by rfl) (unhide HO2) ⟨w1.heap.size, 0, none⟩ 1 1 y.cells (by rfl) (by rfl) (cells_new w1 y _) (by simp [AttrM.cells, Value.oneCell']) (by omega) (by unfold maxLen; omega) (by have := unhide HL; omega) (unhide HB3).size _ rfl ?_); intro g' cp w2 ho hgr hat hlt; have HO4 := hide (own_snoc (unhide HX) (unhide HY) ho); have HB4 := hide ((unhide HB3).grown hgr (unhide HB3).size (fun k hk => ownsRow_base (unhide HO2) hk.symm)); clear ho hgr hat hlt))
      go_roundg (gk - 1)
      case measure => omega
      case rel => exact ⟨i + 1, by omega, by go_num, unhide HO4, unhide HB4⟩
    · have hiz : ¬ (i : Int) < (l.length : Int) := by omega
      obtain rfl : i = l.length := by omega
      rw [List.take_length] at hown
      have hown2 : wr.ownsRow w.heap.size 29 4 u5 (l.map f).length (attrRow (l.map f)) := by rw [List.length_map]; exact hown
      obtain ⟨ao, cp, rfl, hat⟩ := ownsRow_attrs hown2
      rw [List.length_map]
      have HAT := hide hat
      clear hat hown hown2 hb
      go_wp2
      go_ret
      exact ⟨ao, ⟨cp, rfl⟩, unhide HAT, unhide HB⟩
end Go.Proofs.YtgbinemombgckaaDoor
