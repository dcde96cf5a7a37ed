/-
  The document's SVG and MathML: a copy of the list whose names are changed in place; AdjustSVG's and AdjustMathML's walks.
-/
import Derived.Test.YtgbinemombgckaaBc
import Derived.Test.YtgbinemombgckaaAd
namespace Go.Proofs.Ytgbinemombgckaa
open Go.RowKit Go.Lib

/-- A list of attributes in a block of its own, newer than w. -/
structure Lst (w wx : World) (g : Nat) (m : List AttrM) : Prop where
  blk : ∃ cur, wx.heap[g]? = some (.cells cur 38 (0, 0)) ∧ ∀ (j : Nat) v, (attrRow m)[j]? = some v → cur[j]? = some v
  ge : w.heap.size ≤ g
  below : Below w.heap.size w wx
theorem Lst.more {w wx w' : World} {g : Nat} {m : List AttrM} (h : Lst w wx g m) (hb : Below wx.heap.size wx w') : Lst w w' g m := by
  obtain ⟨cur, hc, hv⟩ := h.blk
  exact ⟨⟨cur, (hb.block g (lt_of_block hc)).trans hc, hv⟩, h.ge, h.below.trans (hb.mono h.below.size)⟩
theorem Lst.dn {w wx : World} {g : Nat} {m : List AttrM} (h : Lst w wx g m) (n : Nat) : Lst w (wx.drewN n) g m := ⟨h.blk, h.ge, below_dn h.below n⟩
theorem Lst.dr {w wx : World} {g : Nat} {m : List AttrM} (h : Lst w wx g m) : Lst w wx.drew g m := ⟨h.blk, h.ge, h.below.drew⟩
theorem Lst.row {w wx : World} {g : Nat} {m : List AttrM} (h : Lst w wx g m) {i j : Nat} {x : AttrM} (hx : m[i]? = some x) (hj : j < 4) : wx.cell? ⟨g, i * 4 + j, none⟩ = x.cells[j]? := by
  obtain ⟨cur, hc, hv⟩ := h.blk
  obtain ⟨v, hv1⟩ : ∃ v, x.cells[j]? = some v := ⟨_, List.getElem?_eq_getElem (by rw [attr_len]; exact hj)⟩
  rw [cell_row _ g _ _ _ _ hc, hv1]
  apply hv
  rw [attrRow, flat_get AttrM.cells 4 attr_len m i j hj, hx]
  exact hv1
theorem Lst.cells {w wx : World} {g : Nat} {m : List AttrM} (h : Lst w wx g m) {i : Nat} {x : AttrM} (hx : m[i]? = some x) :
    wx.cell? ⟨g, i * 4, none⟩ = some (.int .i64 x.space) ∧ wx.cell? ⟨g, i * 4 + 1, none⟩ = some (.string x.pre) ∧ wx.cell? ⟨g, i * 4 + 2, none⟩ = some (.string x.name) ∧ wx.cell? ⟨g, i * 4 + 3, none⟩ = some (.string x.val) ∧ wx.frozen? ⟨g, i * 4 + 2, none⟩ = false :=
  ⟨h.row hx (j := 0) (by omega), h.row hx (j := 1) (by omega), h.row hx (j := 2) (by omega), h.row hx (j := 3) (by omega), by obtain ⟨cur, hc, _⟩ := h.blk; simp [World.frozen?, hc]⟩
theorem Lst.attrs {w wx : World} {g : Nat} {m : List AttrM} (h : Lst w wx g m) : AttrsIn wx (some ⟨g, 0, none⟩) m :=
  ⟨fun i x hx => ⟨g, 0, rfl, by obtain ⟨c0, c1, c2, c3, _⟩ := h.cells hx; simp only [Nat.zero_add]; exact ⟨c0, c1, c2, c3⟩⟩⟩
theorem Lst.put {w wx : World} {g : Nat} {m : List AttrM} (h : Lst w wx g m) {i : Nat} {x : AttrM} (hx : m[i]? = some x) (n : ByteArray) : Lst w (wx.setCell ⟨g, i * 4 + 2, none⟩ (.string n)) g (m.set i { x with name := n }) := by
  obtain ⟨cur, hc, hv⟩ := h.blk
  refine ⟨⟨_, heap_set wx g (i * 4 + 2) cur _ (.string n) hc, fun j v hj => ?_⟩, h.ge, h.below.setCell (p := ⟨g, i * 4 + 2, none⟩) h.ge _⟩
  have hlen : j < m.length * 4 := by have := (List.getElem?_eq_some_iff.1 hj).1; rw [attrRow_len, List.length_set] at this; exact this
  obtain ⟨k, r, rfl, hr⟩ : ∃ k r, j = k * 4 + r ∧ r < 4 := ⟨j / 4, j % 4, by omega, by omega⟩
  have hi : i < m.length := (List.getElem?_eq_some_iff.1 hx).1
  rw [attrRow, flat_get AttrM.cells 4 attr_len _ k r hr] at hj
  by_cases hk : k = i
  · subst hk
    rw [List.getElem?_set_self hi] at hj
    have hold : ∀ r', r' < 4 → cur[k * 4 + r']? = x.cells[r']? := fun r' hr' => by
      obtain ⟨v', hv'⟩ : ∃ v, x.cells[r']? = some v := ⟨_, List.getElem?_eq_getElem (by rw [attr_len]; exact hr')⟩
      rw [hv']
      apply hv
      rw [attrRow, flat_get AttrM.cells 4 attr_len m k r' hr', hx]
      exact hv'
    have hsz : k * 4 + 2 < cur.size := by
      have := hold 2 (by omega)
      exact (Array.getElem?_eq_some_iff.1 this).1
    match r, hr with
    | 0, _ => simp [AttrM.cells] at hj; subst hj; rw [Array.getElem?_setIfInBounds_ne (by omega)]; exact hold 0 (by omega)
    | 1, _ => simp [AttrM.cells] at hj; subst hj; rw [Array.getElem?_setIfInBounds_ne (by omega)]; exact hold 1 (by omega)
    | 2, _ => simp [AttrM.cells] at hj; subst hj; simp [hsz]
    | 3, _ => simp [AttrM.cells] at hj; subst hj; rw [Array.getElem?_setIfInBounds_ne (by omega)]; exact hold 3 (by omega)
  · rw [List.getElem?_set_ne (by omega)] at hj
    rw [Array.getElem?_setIfInBounds_ne (by omega)]
    apply hv
    rw [attrRow, flat_get AttrM.cells 4 attr_len m k r hr]
    exact hj
theorem lst_of {w w0 w' : World} {g k n cp : Nat} {m : List AttrM} {xs : List Value} (hm : xs = attrRow m) (ho : w'.ownsRow k 38 4 (.slice (some ⟨g, 0, none⟩) n cp) n xs) (hb : Below w.heap.size w w0) (hk : w.heap.size ≤ k) (hgr : w0.grownBy w' (some k)) : Lst w w' g m := by
  subst hm
  have hbel := hb.grown hgr hb.size (fun k' hk' => by have : k = k' := Option.some.inj hk'; omega)
  have hlen := ho.1
  rcases ho.2 with ⟨h', _⟩ | ⟨g', cap', cur, h', hb', hg', _, _, _, htake⟩
  · cases h'
  · injection h' with h1 _ _
    injection h1 with h1
    injection h1 with h1
    subst h1
    refine ⟨⟨cur, hg', fun j v hj => ?_⟩, Nat.le_trans hk hb', hbel⟩
    rw [← htake, List.getElem?_take] at hj
    split at hj
    · simpa using hj
    · cases hj

/-- A list whose first i attributes are changed. -/
def mix (f : AttrM → AttrM) (l : List AttrM) (i : Nat) : List AttrM := (l.take i).map f ++ l.drop i
theorem mix_len (f : AttrM → AttrM) (l : List AttrM) (i : Nat) : (mix f l i).length = l.length := by simp [mix]; omega
theorem mix_zero (f : AttrM → AttrM) (l : List AttrM) : mix f l 0 = l := by simp [mix]
theorem mix_end (f : AttrM → AttrM) (l : List AttrM) : mix f l l.length = l.map f := by simp [mix]
theorem mix_at (f : AttrM → AttrM) {l : List AttrM} {i : Nat} {x : AttrM} (hx : l[i]? = some x) : (mix f l i)[i]? = some x := by
  have hi : i < l.length := (List.getElem?_eq_some_iff.1 hx).1
  unfold mix
  rw [List.getElem?_append_right (by simp; omega)]
  simp [Nat.min_eq_left (Nat.le_of_lt hi), hx]
theorem mix_succ (f : AttrM → AttrM) {l : List AttrM} {i : Nat} {x : AttrM} (hx : l[i]? = some x) : mix f l (i + 1) = (mix f l i).set i (f x) := by
  have hi : i < l.length := (List.getElem?_eq_some_iff.1 hx).1
  unfold mix
  rw [take_snoc hx, List.set_append_right _ _ (by simp; omega)]
  have e : i - ((l.take i).map f).length = 0 := by simp; omega
  rw [e, List.append_assoc]
  congr 1
  rw [show l.drop i = l[i] :: l.drop (i + 1) from List.drop_eq_getElem_cons hi]
  rfl
theorem set_same {l : List AttrM} {i : Nat} {x : AttrM} (hx : l[i]? = some x) : l.set i x = l := by
  have hi : i < l.length := (List.getElem?_eq_some_iff.1 hx).1
  rw [List.getElem?_eq_getElem hi] at hx
  injection hx with hx
  rw [← hx]
  exact List.set_getElem_self hi
theorem isName_eq (x : AttrM) (n : ByteArray) (h0 : x.space = 0) : isName x n = (x.name.toList == n.toList) := by simp [isName, h0]
theorem defurl_list : defurl.toList = [100, 101, 102, 105, 110, 105, 116, 105, 111, 110, 117, 114, 108] := by rw [toList_data]; rfl
theorem news_of {w : World} {a : Option Addr} {l : List AttrM} (h : AttrsIn w a l) : ∀ b off, a = some ⟨b, off, none⟩ → ∀ j u, (attrRow l)[j]? = some u → w.cell? ((⟨b, off, none⟩ : Addr).add j) = some u := fun b off e => by subst e; exact h.row

set_option maxHeartbeats 4000000 in
theorem rmath_any (l : List AttrM) (a : Option Addr) (cap : Nat) (w : World) (hin : AttrsIn w a l) (hl : l.length * 56 ≤ 140737488351232) :
    Calls Try.prog 15 #[.slice a l.length cap] w fun e w' => ∃ ao cp, e = .returned (.slice ao l.length cp) ∧ AttrsIn w' ao (l.map mathF) ∧ Below w.heap.size w w' := by
  obtain ⟨i0, hi, hz0, hz1, hz2⟩ := info_parts infoA
  have HB1 := hide (below_new w (.cells #[] 38))
  have hblk : (w.alloc (.cells #[] 38)).heap[w.heap.size]? = some (.cells #[] 38 (0, 0)) := heap_alloc_new w _
  have HNEWS := hide (news_of (hin.below (unhide HB1)))
  have HSRC := hide (fun h0 => Addr.of_lt hin h0)
  have HM := hide hl
  have hlz : (l.length : Int) ≤ 140737488355328 := by omega
  clear hin hl
  go_enter Try.func15, Try.ntmps15
  go_wp2_with (at_builtin; go_must (refine cp_append (by rfl) _ _ 25 (by rfl) 38 i0 _ 4 56 Try.underlying25 hi hz0 hz1 hz2 rfl (by omega) w.heap.size (by rfl) (by exact hblk) a l.length cap (attrRow l) (by rfl) (attrRow_len l) (unhide HNEWS) (unhide HSRC) (attrs_oneCell l) (by unfold maxLen; omega) (by have := unhide HM; omega) ?_); intro g cp w1 ho hgr hgk hgl; have HL1 := hide (lst_of rfl ho (unhide HB1) (Nat.le_refl _) hgr); clear ho hgr hgk hgl)
  clear hblk hi hz0 hz1 hz2
  go_loopg [4] l.length (fun k s4 wx => ∃ i : Nat, s4 = .int .i64 i ∧ i + k = l.length ∧ Lst w wx g (mix mathF l i))
  case atStart => exact ⟨0, rfl, by omega, by rw [mix_zero]; exact unhide HL1⟩
  case round =>
    obtain ⟨i, rfl, hik, hls⟩ := hrel
    by_cases hil : i < l.length
    · have hiz : (i : Int) < (l.length : Int) := by omega
      obtain ⟨x, hx⟩ : ∃ x, l[i]? = some x := ⟨_, List.getElem?_eq_getElem hil⟩
      obtain ⟨c0, c1, c2, c3, fz⟩ := hls.cells (mix_at mathF hx)
      have HS := hide (mix_succ mathF hx)
      have HX := hide hx
      have HLS := hide hls
      clear hx hls
      by_cases h0 : x.space = 0
      · have h0b : (x.space == 0) = true := by simp [h0]
        have hnm := isName_eq x defurl h0
        cases hq : (x.name.toList == defurl.toList) with
        | true =>
          rw [hq] at hnm
          have HF : Hid (mathF x = { x with name := defURL }) := hide (by unfold mathF; rw [hnm]; rfl)
          have hq2 : (x.name.toList == [100, 101, 102, 105, 110, 105, 116, 105, 111, 110, 117, 114, 108]) = true := by rw [← defurl_list]; exact hq
          clear hq hnm h0
          go_wp2
          go_roundg (gk - 1)
          case measure => omega
          case rel => exact ⟨i + 1, by go_num, by omega, by rw [unhide HS, unhide HF]; exact (unhide HLS).put (mix_at mathF (unhide HX)) defURL⟩
        | false =>
          rw [hq] at hnm
          have HF : Hid (mathF x = x) := hide (by unfold mathF; rw [hnm]; rfl)
          have hq2 : (x.name.toList == [100, 101, 102, 105, 110, 105, 116, 105, 111, 110, 117, 114, 108]) = false := by rw [← defurl_list]; exact hq
          clear hq hnm h0
          go_wp2
          go_roundg (gk - 1)
          case measure => omega
          case rel => exact ⟨i + 1, by go_num, by omega, by rw [unhide HS, unhide HF, set_same (mix_at mathF (unhide HX))]; exact unhide HLS⟩
      · have h0b : (x.space == 0) = false := by simp [h0]
        have HF : Hid (mathF x = x) := hide (by unfold mathF isName; rw [h0b]; rfl)
        clear h0
        go_wp2
        go_roundg (gk - 1)
        case measure => omega
        case rel => exact ⟨i + 1, by go_num, by omega, by rw [unhide HS, unhide HF, set_same (mix_at mathF (unhide HX))]; exact unhide HLS⟩
    · have hiz : ¬ (i : Int) < (l.length : Int) := by omega
      obtain rfl : i = l.length := by omega
      rw [mix_end] at hls
      have HLS := hide hls
      clear hls
      go_wp2
      go_ret
      exact ⟨some ⟨g, 0, none⟩, ⟨cp, rfl⟩, (unhide HLS).attrs, (unhide HLS).below⟩

theorem rattributes_any (w : World) : Calls Try.prog 29 #[] w fun e w' => ∃ tb, e = .returned (.slice (some ⟨tb, 0, none⟩) 58 58) ∧ TabAt w' tb svgA ∧ Below w.heap.size w w' :=
  (rsvgA_any w).mono fun e w' ⟨h1, h2⟩ => ⟨w.heap.size, h1, by rw [h2]; exact tab_new w svgA, by rw [h2]; exact below_new w _⟩
theorem rpick_any (n : ByteArray) (tb : Nat) (w : World) (ht : TabAt w tb svgA) : Calls Try.prog 24 #[.slice (some ⟨tb, 0, none⟩) 58 58, .string n] w fun e w' => e = .returned (.string (properM svgA n)) ∧ Below w.heap.size w w' := pick_any svgA (by decide) sizeA n tb w ht

set_option maxHeartbeats 4000000 in
theorem rsvg_any (l : List AttrM) (a : Option Addr) (cap : Nat) (w : World) (hin : AttrsIn w a l) (hl : l.length * 56 ≤ 140737488351232) :
    Calls Try.prog 13 #[.slice a l.length cap] w fun e w' => ∃ ao cp, e = .returned (.slice ao l.length cp) ∧ AttrsIn w' ao (l.map svgF) ∧ Below w.heap.size w w' := by
  obtain ⟨i0, hi, hz0, hz1, hz2⟩ := info_parts infoA
  have HB1 := hide (below_new w (.cells #[] 38))
  have hblk : (w.alloc (.cells #[] 38)).heap[w.heap.size]? = some (.cells #[] 38 (0, 0)) := heap_alloc_new w _
  have HNEWS := hide (news_of (hin.below (unhide HB1)))
  have HSRC := hide (fun h0 => Addr.of_lt hin h0)
  have HM := hide hl
  have hlz : (l.length : Int) ≤ 140737488355328 := by omega
  clear hin hl
  go_enter Try.func13, Try.ntmps13
  go_wp2_with (at_builtin; go_must (refine cp_append (by rfl) _ _ 25 (by rfl) 38 i0 _ 4 56 Try.underlying25 hi hz0 hz1 hz2 rfl (by omega) w.heap.size (by rfl) (by exact hblk) a l.length cap (attrRow l) (by rfl) (attrRow_len l) (unhide HNEWS) (unhide HSRC) (attrs_oneCell l) (by unfold maxLen; omega) (by have := unhide HM; omega) ?_); intro g cp w1 ho hgr hgk hgl; have HL1 := hide (lst_of rfl ho (unhide HB1) (Nat.le_refl _) hgr); clear ho hgr hgk hgl)
  clear hblk hi hz0 hz1 hz2
  go_loopg [4] l.length (fun k s4 wx => ∃ i : Nat, s4 = .int .i64 i ∧ i + k = l.length ∧ Lst w wx g (mix svgF l i))
  case atStart => exact ⟨0, rfl, by omega, by rw [mix_zero]; exact unhide HL1⟩
  case round =>
    obtain ⟨i, rfl, hik, hls⟩ := hrel
    by_cases hil : i < l.length
    · have hiz : (i : Int) < (l.length : Int) := by omega
      obtain ⟨x, hx⟩ : ∃ x, l[i]? = some x := ⟨_, List.getElem?_eq_getElem hil⟩
      obtain ⟨c0, c1, c2, c3, fz⟩ := hls.cells (mix_at svgF hx)
      have HS := hide (mix_succ svgF hx)
      have HX := hide (mix_at svgF hx)
      have HLS := hide hls
      clear hx hls
      by_cases h0 : x.space = 0
      · have h0b : (x.space == 0) = true := by simp [h0]
        have HF : Hid (svgF x = { x with name := properM svgA x.name }) := hide (by unfold svgF; rw [h0b]; rfl)
        clear h0
        have HPK := hide (fun tb W hW => rpick_any x.name tb W hW)
        generalize properM svgA x.name = r at HPK HF
        go_wp2
        go_region_with (first
          | (go_at_call 29; refine (rattributes_any _).mono ?_; rintro e w2 ⟨tb, rfl, ht, hb2⟩; have HT := hide ht; have HL2 := hide ((unhide HLS).dr.more hb2); obtain ⟨d0, d1, d2, d3, fy⟩ := (unhide HL2).cells (unhide HX); clear ht hb2)
          | (go_at_call 24; refine (unhide HPK _ _ (unhide HT)).mono ?_; rintro e w3 ⟨rfl, hb3⟩; have HL3 := hide ((unhide HL2).more hb3); obtain ⟨b0, b1, b2, b3, fx⟩ := (unhide HL3).cells (unhide HX); clear hb3))
        all_goals go_wp2
        all_goals go_roundg (gk - 1)
        all_goals first | omega | exact ⟨i + 1, by go_num, by omega, by rw [unhide HS, unhide HF]; exact (unhide HL3).put (unhide HX) r⟩
      · have h0b : (x.space == 0) = false := by simp [h0]
        have HF : Hid (svgF x = x) := hide (by unfold svgF; rw [h0b]; rfl)
        clear h0
        go_wp2
        go_roundg (gk - 1)
        case measure => omega
        case rel => exact ⟨i + 1, by go_num, by omega, by rw [unhide HS, unhide HF, set_same (unhide HX)]; exact unhide HLS⟩
    · have hiz : ¬ (i : Int) < (l.length : Int) := by omega
      obtain rfl : i = l.length := by omega
      rw [mix_end] at hls
      have HLS := hide hls
      clear hls
      go_wp2
      go_ret
      exact ⟨some ⟨g, 0, none⟩, ⟨cp, rfl⟩, (unhide HLS).attrs, (unhide HLS).below⟩

set_option maxHeartbeats 4000000 in
theorem adjustSVG_any (l : List AttrM) (a : Option Addr) (cap : Nat) (w : World) (hin : AttrsIn w a l) (hl : l.length * 56 ≤ 140737488351232) :
    Calls Try.prog 4 #[.slice a l.length cap] w fun e w' => e = .returned (.bool true) ∧ Below w.heap.size w w' := by
  obtain ⟨i0, hi, hz0, hz1, hz2⟩ := info_parts infoA
  have HB1 := hide (below_new w (.cells #[] 38))
  have hblk : (w.alloc (.cells #[] 38)).heap[w.heap.size]? = some (.cells #[] 38 (0, 0)) := heap_alloc_new w _
  have HNEWS := hide (news_of (hin.below (unhide HB1)))
  have HSRC := hide (fun h0 => Addr.of_lt hin h0)
  have HIN := hide hin
  have HM := hide hl
  have hlz : (l.length : Int) ≤ 140737488355328 := by omega
  have HC := hide (fun a cap W hW => svg_any l a cap W hW hl)
  have HR := hide (fun a cap W hW => rsvg_any l a cap W hW hl)
  have HS1 := hide (fun a b ca cb W h1 h2 => same_any (w := W) a b ca cb (l.map svgF) l.length (List.length_map _) h1 h2 hl)
  have HS2 := hide (fun a b ca cb W h1 h2 => same_any (w := W) a b ca cb l l.length rfl h1 h2 hl)
  generalize l.map svgF = m at HC HR HS1
  clear hin hl
  go_enter Try.func4, Try.ntmps4
  go_wp2_with (first
    | (go_at_call 12; refine (unhide HC _ _ _ (unhide HL1).attrs).mono ?_; rintro e w2 ⟨ao, co, rfl, hat, hb⟩; have HA2 := hide hat; have HL2 := hide ((unhide HL1).more hb); clear hat hb)
    | (go_at_call 13; refine (unhide HR _ _ _ ((unhide HIN).below (unhide HL2).below)).mono ?_; rintro e w3 ⟨ao3, co3, rfl, hat, hb⟩; have HA3 := hide hat; have HA23 := hide ((unhide HA2).below hb); have HL3 := hide ((unhide HL2).more hb); clear hat hb)
    | (go_at_call 11; have _x := unhide HL4; refine (unhide HS2 _ _ _ _ _ (unhide HL4).attrs ((unhide HIN).below (unhide HL4).below)).mono ?_; rintro e w5 ⟨rfl, hb⟩; have HL5 := hide ((unhide HL4).more hb); clear hb)
    | (go_at_call 11; refine (unhide HS1 _ _ _ _ _ (unhide HA23) (unhide HA3)).mono ?_; rintro e w4 ⟨rfl, hb⟩; have HL4 := hide ((unhide HL3).more hb); clear hb)
    | (go_at_call 10; refine (awake_any _).mono ?_; rintro e w6 ⟨rfl, hb⟩; have HL6 := hide ((unhide HL5).more hb); clear hb)
    | (at_builtin; go_must (refine cp_append (by rfl) _ _ 25 (by rfl) 38 i0 _ 4 56 Try.underlying25 hi hz0 hz1 hz2 rfl (by omega) w.heap.size (by rfl) (by exact hblk) a l.length cap (attrRow l) (by rfl) (attrRow_len l) (unhide HNEWS) (unhide HSRC) (attrs_oneCell l) (by unfold maxLen; omega) (by have := unhide HM; omega) ?_); intro g cp w1 ho hgr hgk hgl; have HL1 := hide (lst_of rfl ho (unhide HB1) (Nat.le_refl _) hgr); clear ho hgr hgk hgl))
  go_ret
  exact ⟨rfl, (unhide HL6).below⟩

set_option maxHeartbeats 4000000 in
theorem adjustMathML_any (l : List AttrM) (a : Option Addr) (cap : Nat) (w : World) (hin : AttrsIn w a l) (hl : l.length * 56 ≤ 140737488351232) :
    Calls Try.prog 5 #[.slice a l.length cap] w fun e w' => e = .returned (.bool true) ∧ Below w.heap.size w w' := by
  obtain ⟨i0, hi, hz0, hz1, hz2⟩ := info_parts infoA
  have HB1 := hide (below_new w (.cells #[] 38))
  have hblk : (w.alloc (.cells #[] 38)).heap[w.heap.size]? = some (.cells #[] 38 (0, 0)) := heap_alloc_new w _
  have HNEWS := hide (news_of (hin.below (unhide HB1)))
  have HSRC := hide (fun h0 => Addr.of_lt hin h0)
  have HIN := hide hin
  have HM := hide hl
  have hlz : (l.length : Int) ≤ 140737488355328 := by omega
  have HC := hide (fun a cap W hW => math_any l a cap W hW hl)
  have HR := hide (fun a cap W hW => rmath_any l a cap W hW hl)
  have HS1 := hide (fun a b ca cb W h1 h2 => same_any (w := W) a b ca cb (l.map mathF) l.length (List.length_map _) h1 h2 hl)
  have HS2 := hide (fun a b ca cb W h1 h2 => same_any (w := W) a b ca cb l l.length rfl h1 h2 hl)
  generalize l.map mathF = m at HC HR HS1
  clear hin hl
  go_enter Try.func5, Try.ntmps5
  go_wp2_with (first
    | (go_at_call 14; refine (unhide HC _ _ _ (unhide HL1).attrs).mono ?_; rintro e w2 ⟨ao, co, rfl, hat, hb⟩; have HA2 := hide hat; have HL2 := hide ((unhide HL1).more hb); clear hat hb)
    | (go_at_call 15; refine (unhide HR _ _ _ ((unhide HIN).below (unhide HL2).below)).mono ?_; rintro e w3 ⟨ao3, co3, rfl, hat, hb⟩; have HA3 := hide hat; have HA23 := hide ((unhide HA2).below hb); have HL3 := hide ((unhide HL2).more hb); clear hat hb)
    | (go_at_call 11; have _x := unhide HL4; refine (unhide HS2 _ _ _ _ _ (unhide HL4).attrs ((unhide HIN).below (unhide HL4).below)).mono ?_; rintro e w5 ⟨rfl, hb⟩; have HL5 := hide ((unhide HL4).more hb); clear hb)
    | (go_at_call 11; refine (unhide HS1 _ _ _ _ _ (unhide HA23) (unhide HA3)).mono ?_; rintro e w4 ⟨rfl, hb⟩; have HL4 := hide ((unhide HL3).more hb); clear hb)
    | (go_at_call 10; refine (awake_any _).mono ?_; rintro e w6 ⟨rfl, hb⟩; have HL6 := hide ((unhide HL5).more hb); clear hb)
    | (at_builtin; go_must (refine cp_append (by rfl) _ _ 25 (by rfl) 38 i0 _ 4 56 Try.underlying25 hi hz0 hz1 hz2 rfl (by omega) w.heap.size (by rfl) (by exact hblk) a l.length cap (attrRow l) (by rfl) (attrRow_len l) (unhide HNEWS) (unhide HSRC) (attrs_oneCell l) (by unfold maxLen; omega) (by have := unhide HM; omega) ?_); intro g cp w1 ho hgr hgk hgl; have HL1 := hide (lst_of rfl ho (unhide HB1) (Nat.le_refl _) hgr); clear ho hgr hgk hgl))
  go_ret
  exact ⟨rfl, (unhide HL6).below⟩
end Go.Proofs.Ytgbinemombgckaa
