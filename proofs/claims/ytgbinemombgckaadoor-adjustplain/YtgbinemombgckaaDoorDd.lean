/-
  The document's Foreign; AdjustForeign's walk.
-/
import Derived.Test.YtgbinemombgckaaDoorDc
import Derived.Test.YtgbinemombgckaaDoorBd
namespace Go.Proofs.YtgbinemombgckaaDoor
open Go.RowKit Go.Lib

theorem forF_space (x : AttrM) (h : (x.space == 0) = false) : forF x = x := by
  have : findR (fun r => isName x r.src) = none := findR_none (fun i s _ _ => by simp only [isName, h, Bool.false_and])
  unfold forF
  rw [this]

set_option maxHeartbeats 4000000 in
theorem rForeign_any (l : List AttrM) (a : Option Addr) (cap : Nat) (w : World) (hin : AttrsIn w a l) (hl : l.length * 56 ≤ 140737488351232) :
    Calls Tryd.prog 8 #[.slice a l.length cap] w fun e w' => ∃ ao cp, e = .returned (.slice ao l.length cp) ∧ AttrsIn w' ao (l.map forF) ∧ Below w.heap.size w w' := by
  obtain ⟨i0, hi, hz0, hz1, hz2⟩ := info_parts infoA
  have HIN := hide hin
  have HL := hide hl
  have hlz : (l.length : Int) ≤ 140737488355328 := by omega
  clear hin hl
  go_enter Tryd.func8, Tryd.ntmps8
  go_wp2
  go_loopg [3, 4] l.length (fun k s3 s4 wx => ∃ i : Nat, i + k = l.length ∧ s4 = .int .i64 i ∧ wx.ownsRow w.heap.size 29 4 s3 i (attrRow ((l.take i).map forF)) ∧ Below w.heap.size w wx)
  case atStart => exact ⟨0, by omega, rfl, by simpa [attrRow] using World.ownsRow_nil _ _ _ _, Below.refl _ _⟩
  case round =>
    obtain ⟨i, hik, rfl, hown, hb⟩ := hrel
    have HB := hide hb
    by_cases hil : i < l.length
    · have hiz : (i : Int) < (l.length : Int) := by omega
      obtain ⟨x, hx⟩ : ∃ x, l[i]? = some x := ⟨_, List.getElem?_eq_getElem hil⟩
      obtain ⟨b, off, rfl, c0, c1, c2, c3⟩ := ((unhide HIN).below hb).cells i x hx
      have HX := hide hx
      have HOWN := hide hown
      clear hx hown hb
      cases h0 : (x.space == 0) with
      | true =>
        have h0' : x.space = 0 := by simpa using h0
        have hcall := fun W => rforeign_any x h0' W
        clear h0'
        obtain ⟨y, hy⟩ : ∃ y, forF x = y := ⟨_, rfl⟩
        rw [hy] at hcall
        have HCALL := hide hcall
        have HY := hide hy
        clear hcall hy
        go_wp2_with (first
          | (go_at_call 18; refine (unhide HCALL _).mono ?_; rintro e w1 ⟨rfl, hb1⟩; have HB2 := hide ((unhide HB).trans (hb1.mono (unhide HB).size)); have HO2 := hide (ownsRow_more (ownsRow_more (unhide HOWN) hb1) (below_new w1 (.cells #[.int .i64 y.space, .string y.pre, .string y.name, .string y.val] 29))); have HB3 := hide ((unhide HB2).trans ((below_new w1 (.cells #[.int .i64 y.space, .string y.pre, .string y.name, .string y.val] 29)).mono (unhide HB2).size)); clear hb1)
          | (at_builtin; go_must (refine wpList_append_lies _ (by rfl) _ _ 22 (by rfl) w.heap.size 29 i0 _ 4 56 Tryd.underlying22 hi hz0 hz1 hz2 rfl (by omega) u3 i (attrRow ((l.take i).map forF)) (by rfl) (unhide HO2) ⟨w1.heap.size, 0, none⟩ 1 1 y.cells (by rfl) (by rfl) (cells_new w1 y _) (by simp [AttrM.cells, Value.oneCell']) (by omega) (by unfold maxLen; omega) (by have := unhide HL; omega) (unhide HB3).size _ rfl ?_); intro g' cp w2 ho hgr hat hlt; have HO4 := hide (own_snoc (unhide HX) (unhide HY) ho); have HB4 := hide ((unhide HB3).grown hgr (unhide HB3).size (fun k hk => ownsRow_base (unhide HO2) hk.symm)); clear ho hgr hat hlt))
        go_roundg (gk - 1)
        case measure => omega
        case rel => exact ⟨i + 1, by omega, by go_num, unhide HO4, unhide HB4⟩
      | false =>
        have HY := hide (forF_space x h0)
        have HO2 := hide (ownsRow_more (unhide HOWN) (below_new wr (.cells #[.int .i64 x.space, .string x.pre, .string x.name, .string x.val] 29)))
        have HB3 := hide ((unhide HB).trans ((below_new wr (.cells #[.int .i64 x.space, .string x.pre, .string x.name, .string x.val] 29)).mono (unhide HB).size))
        go_wp2_with (first
          | (at_builtin; go_must (refine wpList_append_lies _ (by rfl) _ _ 22 (by rfl) w.heap.size 29 i0 _ 4 56 Tryd.underlying22 hi hz0 hz1 hz2 rfl (by omega) u3 i (attrRow ((l.take i).map forF)) (by rfl) (unhide HO2) ⟨wr.heap.size, 0, none⟩ 1 1 x.cells (by rfl) (by rfl) (cells_new wr x _) (by simp [AttrM.cells, Value.oneCell']) (by omega) (by unfold maxLen; omega) (by have := unhide HL; omega) (unhide HB3).size _ rfl ?_); intro g' cp w2 ho hgr hat hlt; have HO4 := hide (own_snoc (unhide HX) (unhide HY) ho); have HB4 := hide ((unhide HB3).grown hgr (unhide HB3).size (fun k hk => ownsRow_base (unhide HO2) hk.symm)); clear ho hgr hat hlt))
        go_roundg (gk - 1)
        case measure => omega
        case rel => exact ⟨i + 1, by omega, by go_num, unhide HO4, unhide HB4⟩
    · have hiz : ¬ (i : Int) < (l.length : Int) := by omega
      obtain rfl : i = l.length := by omega
      rw [List.take_length] at hown
      have hown2 : wr.ownsRow w.heap.size 29 4 u3 (l.map forF).length (attrRow (l.map forF)) := by rw [List.length_map]; exact hown
      obtain ⟨ao, cp, rfl, hat⟩ := ownsRow_attrs hown2
      rw [List.length_map]
      have HAT := hide hat
      clear hat hown hown2 hb
      go_wp2
      go_ret
      exact ⟨ao, ⟨cp, rfl⟩, unhide HAT, unhide HB⟩

set_option maxHeartbeats 4000000 in
theorem adjustForeign_any (l : List AttrM) (a : Option Addr) (cap : Nat) (w : World) (hS : SpAt w) (hin : AttrsIn w a l) (hl : l.length * 56 ≤ 140737488351232) :
    Calls Tryd.prog 3 #[.slice a l.length cap] w fun e w' => e = .returned (.bool true) ∧ Below w.heap.size w w' := by
  obtain ⟨i0, hi, hz0, hz1, hz2⟩ := info_parts infoA
  have HB1 := hide (below_new w (.cells #[] 29))
  have hblk : (w.alloc (.cells #[] 29)).heap[w.heap.size]? = some (.cells #[] 29 (0, 0)) := heap_alloc_new w _
  have HNEWS := hide (news_of (hin.below (unhide HB1)))
  have HSRC := hide (fun h0 => Addr.of_lt hin h0)
  have HIN := hide hin
  have HM := hide hl
  have hlz : (l.length : Int) ≤ 140737488355328 := by omega
  have HC := hide (fun a cap W (hW : Below w.heap.size w W) h => foreign_any l a cap W (hS.below hW) h hl)
  have HR := hide (fun a cap W hW => rForeign_any l a cap W hW hl)
  have HS1 := hide (fun a b ca cb W h1 h2 => same_any (w := W) a b ca cb (l.map forF) l.length (List.length_map _) h1 h2 hl)
  have HS2 := hide (fun a b ca cb W h1 h2 => same_any (w := W) a b ca cb l l.length rfl h1 h2 hl)
  generalize l.map forF = m at HC HR HS1
  clear hin hl hS
  go_enter Tryd.func3, Tryd.ntmps3
  go_wp2_with (first
    | (go_at_call 7; refine (unhide HC _ _ _ (unhide HL1).below (unhide HL1).attrs).mono ?_; rintro e w2 ⟨ao, co, rfl, hat, hb⟩; have HA2 := hide hat; have HL2 := hide ((unhide HL1).more hb); clear hat hb)
    | (go_at_call 8; refine (unhide HR _ _ _ ((unhide HIN).below (unhide HL2).below)).mono ?_; rintro e w3 ⟨ao3, co3, rfl, hat, hb⟩; have HA3 := hide hat; have HA23 := hide ((unhide HA2).below hb); have HL3 := hide ((unhide HL2).more hb); clear hat hb)
    | (go_at_call 6; have _x := unhide HL4; refine (unhide HS2 _ _ _ _ _ (unhide HL4).attrs ((unhide HIN).below (unhide HL4).below)).mono ?_; rintro e w5 ⟨rfl, hb⟩; have HL5 := hide ((unhide HL4).more hb); clear hb)
    | (go_at_call 6; refine (unhide HS1 _ _ _ _ _ (unhide HA23) (unhide HA3)).mono ?_; rintro e w4 ⟨rfl, hb⟩; have HL4 := hide ((unhide HL3).more hb); clear hb)
    | (go_at_call 9; refine (awake_any _).mono ?_; rintro e w6 ⟨rfl, hb⟩; have HL6 := hide ((unhide HL5).more hb); clear hb)
    | (at_builtin; go_must (refine cp_append (by rfl) _ _ 22 (by rfl) 29 i0 _ 4 56 Tryd.underlying22 hi hz0 hz1 hz2 rfl (by omega) w.heap.size (by rfl) (by exact hblk) a l.length cap (attrRow l) (by rfl) (attrRow_len l) (unhide HNEWS) (unhide HSRC) (attrs_oneCell l) (by unfold maxLen; omega) (by have := unhide HM; omega) ?_); intro g cp w1 ho hgr hgk hgl; have HL1 := hide (lst_of rfl ho (unhide HB1) (Nat.le_refl _) hgr); clear ho hgr hgk hgl))
  go_ret
  exact ⟨rfl, (unhide HL6).below⟩
end Go.Proofs.YtgbinemombgckaaDoor
