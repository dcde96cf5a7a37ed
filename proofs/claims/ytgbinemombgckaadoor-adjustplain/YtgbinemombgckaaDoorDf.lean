/-
  Others stay: AdjustPlain's walk.
-/
import Derived.Test.YtgbinemombgckaaDoorDe
namespace Go.Proofs.YtgbinemombgckaaDoor
open Go.RowKit Go.Lib

/-- A list that is being filled, in the block that was made first. -/
structure Mk (w wx : World) (n : Nat) (m : List AttrM) : Prop where
  blk : ∃ cur, wx.heap[w.heap.size]? = some (.cells cur 29 (0, 0)) ∧ cur.size = n * 4 ∧ ∀ (j : Nat) v, (attrRow m)[j]? = some v → cur[j]? = some v
  below : Below w.heap.size w wx
theorem mk_new {w w1 : World} {n : Nat} {xs : List Value} (ho : w1.ownsRow w.heap.size 29 4 (.slice (some ⟨w.heap.size, 0, none⟩) n n) n xs) (hg : w.grownBy w1 none) : Mk w w1 n [] := by
  have hbel := (Below.refl w.heap.size w).grown hg (Nat.le_refl _) (by simp)
  rcases ho.2 with ⟨h', _⟩ | ⟨g', cap', cur, h', _, hg', _, _, hsz, _⟩
  · cases h'
  · injection h' with h1 _ h3
    injection h1 with h1
    injection h1 with h1
    subst h1 h3
    exact ⟨⟨cur, hg', hsz, fun j v hj => by simp [attrRow] at hj⟩, hbel⟩
theorem Mk.cells {w wx : World} {n i : Nat} {m : List AttrM} (h : Mk w wx n m) (hi : i < n) :
    ∃ v0 v1 v2 v3, wx.cell? ⟨w.heap.size, i * 4, none⟩ = some v0 ∧ wx.cell? ⟨w.heap.size, i * 4 + 1, none⟩ = some v1 ∧ wx.cell? ⟨w.heap.size, i * 4 + 2, none⟩ = some v2 ∧ wx.cell? ⟨w.heap.size, i * 4 + 3, none⟩ = some v3 ∧
    wx.frozen? ⟨w.heap.size, i * 4, none⟩ = false ∧ wx.frozen? ⟨w.heap.size, i * 4 + 1, none⟩ = false ∧ wx.frozen? ⟨w.heap.size, i * 4 + 2, none⟩ = false ∧ wx.frozen? ⟨w.heap.size, i * 4 + 3, none⟩ = false := by
  obtain ⟨cur, hc, hs, _⟩ := h.blk
  have g : ∀ r, r < 4 → wx.cell? ⟨w.heap.size, i * 4 + r, none⟩ = some (cur[i * 4 + r]!) := fun r hr => by
    rw [cell_row _ _ _ _ _ _ hc, Array.getElem?_eq_getElem (by omega)]
    congr 1
    rw [getElem!_pos cur _ (by omega)]
  have f : ∀ r, wx.frozen? ⟨w.heap.size, r, none⟩ = false := fun r => by simp [World.frozen?, hc]
  exact ⟨_, _, _, _, g 0 (by omega), g 1 (by omega), g 2 (by omega), g 3 (by omega), f _, f _, f _, f _⟩
theorem Mk.put {w wx : World} {n i : Nat} {m : List AttrM} (h : Mk w wx n m) (hm : m.length = i) (hi : i < n) (x : AttrM) :
    Mk w (((((wx.setCell ⟨w.heap.size, i * 4, none⟩ (.int .i64 x.space)).setCell ⟨w.heap.size, i * 4 + 1, none⟩ (.string x.pre)).setCell ⟨w.heap.size, i * 4 + 2, none⟩ (.string x.name)).setCell ⟨w.heap.size, i * 4 + 3, none⟩ (.string x.val)).setCell ⟨w.heap.size, i * 4, none⟩ (.int .i64 3)) n (m ++ [{ x with space := 3 }]) := by
  obtain ⟨cur, hc, hs, hv⟩ := h.blk
  have h1 := heap_set wx w.heap.size (i * 4) cur _ (.int .i64 x.space) hc
  have h2 := heap_set _ w.heap.size (i * 4 + 1) _ _ (.string x.pre) h1
  have h3 := heap_set _ w.heap.size (i * 4 + 2) _ _ (.string x.name) h2
  have h4 := heap_set _ w.heap.size (i * 4 + 3) _ _ (.string x.val) h3
  have h5 := heap_set _ w.heap.size (i * 4) _ _ (.int .i64 3) h4
  refine ⟨⟨_, h5, by simp [hs], fun j v hj => ?_⟩, ((((h.below.setCell (p := ⟨w.heap.size, i * 4, none⟩) (Nat.le_refl _) _).setCell (p := ⟨w.heap.size, i * 4 + 1, none⟩) (Nat.le_refl _) _).setCell (p := ⟨w.heap.size, i * 4 + 2, none⟩) (Nat.le_refl _) _).setCell (p := ⟨w.heap.size, i * 4 + 3, none⟩) (Nat.le_refl _) _).setCell (p := ⟨w.heap.size, i * 4, none⟩) (Nat.le_refl _) _⟩
  rw [attrRow_snoc] at hj
  have hlen : (attrRow m).length = i * 4 := by rw [attrRow_len, hm]
  by_cases hji : j < i * 4
  · rw [List.getElem?_append_left (by omega)] at hj
    rw [Array.getElem?_setIfInBounds_ne (by omega), Array.getElem?_setIfInBounds_ne (by omega), Array.getElem?_setIfInBounds_ne (by omega), Array.getElem?_setIfInBounds_ne (by omega), Array.getElem?_setIfInBounds_ne (by omega)]
    exact hv j v hj
  · rw [List.getElem?_append_right (by omega), hlen] at hj
    have hj4 : j - i * 4 < 4 := by have := (List.getElem?_eq_some_iff.1 hj).1; simpa [AttrM.cells] using this
    obtain ⟨r, hr⟩ : ∃ r, j = i * 4 + r := ⟨j - i * 4, by omega⟩
    subst hr
    rw [Nat.add_sub_cancel_left] at hj hj4
    match r, hj4 with
    | 0, _ => simp [AttrM.cells] at hj; subst hj; exact Array.getElem?_setIfInBounds_self_of_lt (by simp; omega)
    | 1, _ => simp [AttrM.cells] at hj; subst hj; rw [Array.getElem?_setIfInBounds_ne (by omega), Array.getElem?_setIfInBounds_ne (by omega), Array.getElem?_setIfInBounds_ne (by omega), Array.getElem?_setIfInBounds_self_of_lt (by simp; omega)]
    | 2, _ => simp [AttrM.cells] at hj; subst hj; rw [Array.getElem?_setIfInBounds_ne (by omega), Array.getElem?_setIfInBounds_ne (by omega), Array.getElem?_setIfInBounds_self_of_lt (by simp; omega)]
    | 3, _ => simp [AttrM.cells] at hj; subst hj; rw [Array.getElem?_setIfInBounds_ne (by omega), Array.getElem?_setIfInBounds_self_of_lt (by simp; omega)]
theorem Mk.attrs {w wx : World} {n : Nat} {m : List AttrM} (h : Mk w wx n m) : AttrsIn wx (some ⟨w.heap.size, 0, none⟩) m := by
  obtain ⟨cur, hc, _, hv⟩ := h.blk
  refine ⟨fun i x hx => ⟨w.heap.size, 0, rfl, ?_⟩⟩
  have g : ∀ r, r < 4 → wx.cell? ⟨w.heap.size, i * 4 + r, none⟩ = x.cells[r]? := fun r hr => by
    obtain ⟨v, hv1⟩ : ∃ v, x.cells[r]? = some v := ⟨_, List.getElem?_eq_getElem (by rw [attr_len]; exact hr)⟩
    rw [cell_row _ _ _ _ _ _ hc, hv1]
    apply hv
    rw [attrRow, flat_get AttrM.cells 4 attr_len m i r hr, hx]
    exact hv1
  simp only [Nat.zero_add]
  exact ⟨g 0 (by omega), g 1 (by omega), g 2 (by omega), g 3 (by omega)⟩

def xlF (x : AttrM) : AttrM := { x with space := 3 }
theorem xl_svg (l : List AttrM) : (l.map xlF).map svgF = l.map xlF := by rw [List.map_map]; exact List.map_congr_left (fun x _ => rfl)
theorem xl_math (l : List AttrM) : (l.map xlF).map mathF = l.map xlF := by rw [List.map_map]; exact List.map_congr_left (fun x _ => rfl)
theorem xl_for (l : List AttrM) : (l.map xlF).map forF = l.map xlF := by rw [List.map_map]; exact List.map_congr_left (fun x _ => forF_space (xlF x) rfl)
theorem proper_size (n : ByteArray) : (properM svgE n).size = n.size := by
  rcases proper_cases svgE n with h | ⟨_, h⟩
  · rw [h]
  · have h' : (properM svgE n).data.toList.map low = n.data.toList := of_decide_eq_true h
    have := congrArg List.length h'
    rw [List.length_map, len_data, len_data] at this
    exact this
theorem proper_small (n : ByteArray) (h : ((properM svgE n).toList == n.toList) = false) : (properM svgE n).size ≤ 1000 ∧ ((lowS (properM svgE n)).toList == n.toList) = true := by
  rcases proper_cases svgE n with h1 | ⟨h1, h2⟩
  · rw [h1] at h; simp at h
  · refine ⟨?_, by rw [low_eq, h2]⟩
    have : svgE.all (fun y => decide (y.size ≤ 1000)) = true := by decide +kernel
    exact of_decide_eq_true (List.all_eq_true.1 this _ h1)

set_option maxHeartbeats 8000000 in
set_option maxRecDepth 10000 in
theorem adjustPlain_any (s : ByteArray) (l : List AttrM) (a : Option Addr) (cap : Nat) (w : World) (hS : SpAt w) (hin : AttrsIn w a l) (hl : l.length * 56 ≤ 140737488351232) :
    Calls Tryd.prog 5 #[.string s, .slice a l.length cap] w fun e w' => e = .returned (.bool true) ∧ Below w.heap.size w w' := by
  obtain ⟨i0, hi, hz0, hz1, hz2⟩ := info_parts infoA
  have HIN := hide hin
  have HSP := hide hS
  have HL := hide hl
  have hlz : (l.length : Int) ≤ 140737488355328 := by omega
  have HE := hide (fun W => element_any s W)
  have hsz := proper_size s
  have HSM := hide (proper_small s)
  generalize properM svgE s = e at HE hsz HSM
  have hszb : ((e.size : Int) == (s.size : Int)) = true := by simp [hsz]
  clear hsz
  have HX := hide (fun a cap W h => svg_n (l.map xlF) l.length (List.length_map _) a cap W h hl)
  rw [xl_svg] at HX
  have HY := hide (fun a cap W h => math_n (l.map xlF) l.length (List.length_map _) a cap W h hl)
  rw [xl_math] at HY
  have HZ := hide (fun a cap W h => for_n (l.map xlF) l.length (List.length_map _) a cap W h hl)
  rw [xl_for] at HZ
  have HSA := hide (fun a b ca cb W h1 h2 => same_any (w := W) a b ca cb (l.map xlF) l.length (List.length_map _) h1 h2 hl)
  clear hin hS hl
  go_enter Tryd.func5, Tryd.ntmps5
  go_wp2_with (at_make; go_must (refine wpList_make_full _ rfl _ _ 22 rfl w.heap.size 29 i0 _ 4 Tryd.underlying22 hi hz0 hz1 _ _ _ _ l.length rfl rfl rfl rfl (by have := unhide HL; rw [hz2]; omega) (by unfold maxLen; omega) (Nat.le_refl _) ?_); intro w1 hown1 hgrow1; have HM1 := hide (mk_new hown1 hgrow1); clear hown1 hgrow1)
  clear hi hz0 hz1 hz2
  go_loopg [6] l.length (fun k s6 wx => ∃ i : Nat, i + k = l.length ∧ s6 = .int .i64 i ∧ Mk w wx l.length ((l.take i).map xlF))
  case atStart => exact ⟨0, by omega, rfl, by simpa using unhide HM1⟩
  case round =>
    obtain ⟨i, hik, rfl, hmk⟩ := hrel
    have HMK := hide hmk
    by_cases hil : i < l.length
    · have hiz : (i : Int) < (l.length : Int) := by omega
      obtain ⟨x, hx⟩ : ∃ x, l[i]? = some x := ⟨_, List.getElem?_eq_getElem hil⟩
      obtain ⟨b0, o0, rfl, c0, c1, c2, c3⟩ := ((unhide HIN).below hmk.below).cells i x hx
      obtain ⟨v0, v1, v2, v3, d0, d1, d2, d3, f0, f1, f2, f3⟩ := hmk.cells hil
      have HN := hide (take_snoc hx xlF)
      have HPUT := hide (hmk.put (by simp; omega) hil x)
      clear hx hmk
      go_wp2
      go_roundg (gk - 1)
      case measure => omega
      case rel => exact ⟨i + 1, by omega, by go_num, by rw [unhide HN]; exact unhide HPUT⟩
    · have hiz : ¬ (i : Int) < (l.length : Int) := by omega
      obtain rfl : i = l.length := by omega
      rw [List.take_length] at hmk
      have HB0 := hide hmk.below
      have HA0 := hide hmk.attrs
      clear hmk HMK HM1
      generalize l.map xlF = m at HX HY HZ HSA HA0
      cases hes : (e.toList == s.toList) with
      | true =>
        go_wp2_with (first
          | (go_at_call 10; refine (unhide HE _).mono ?_; rintro e2 w2 ⟨rfl, hb⟩; have HB2 := hide ((unhide HB0).trans (hb.mono (unhide HB0).size)); have HA2 := hide ((unhide HA0).below hb); clear hb)
          | (go_at_call 11; refine (unhide HX _ _ _ (unhide HA2)).mono ?_; rintro e3 w3 ⟨ax, cx, rfl, hat, hb⟩; have HB3 := hide ((unhide HB2).trans (hb.mono (unhide HB2).size)); have HA3 := hide ((unhide HA2).below hb); have HR3 := hide hat; clear hat hb)
          | (go_at_call 7; refine (unhide HZ _ _ _ (unhide HA4) ((unhide HSP).below (unhide HB4))).mono ?_; rintro e5 w5 ⟨az, cz, rfl, hat, hb⟩; have HB5 := hide ((unhide HB4).trans (hb.mono (unhide HB4).size)); have HA5 := hide ((unhide HA4).below hb); have HR5 := hide hat; clear hat hb)
          | (go_at_call 12; refine (unhide HY _ _ _ (unhide HA6)).mono ?_; rintro e7 w7 ⟨ay, cy, rfl, hat, hb⟩; have HB7 := hide ((unhide HB6).trans (hb.mono (unhide HB6).size)); have HA7 := hide ((unhide HA6).below hb); have HR7 := hide hat; clear hat hb)
          | (go_at_call 6; have _x := unhide HB7; refine (unhide HSA _ _ _ _ _ (unhide HR7) (unhide HA7)).mono ?_; rintro e8 w8 ⟨rfl, hb⟩; have HB8 := hide ((unhide HB7).trans (hb.mono (unhide HB7).size)); clear hb)
          | (go_at_call 6; have _x := unhide HB5; refine (unhide HSA _ _ _ _ _ (unhide HR5) (unhide HA5)).mono ?_; rintro e6 w6 ⟨rfl, hb⟩; have HB6 := hide ((unhide HB5).trans (hb.mono (unhide HB5).size)); have HA6 := hide ((unhide HA5).below hb); clear hb)
          | (go_at_call 6; refine (unhide HSA _ _ _ _ _ (unhide HR3) (unhide HA3)).mono ?_; rintro e4 w4 ⟨rfl, hb⟩; have HB4 := hide ((unhide HB3).trans (hb.mono (unhide HB3).size)); have HA4 := hide ((unhide HA3).below hb); clear hb)
          | (go_at_call 9; refine (awake_any _).mono ?_; rintro ea wa ⟨rfl, hb⟩; have HBa := hide ((unhide HB8).trans (hb.mono (unhide HB8).size)); clear hb))
        go_ret
        exact ⟨rfl, unhide HBa⟩
      | false =>
        obtain ⟨hz, hlow⟩ := unhide HSM hes
        have HR := hide (fun W => rsmall_any e W (by omega))
        clear hz
        generalize lowS e = u at HR hlow
        go_wp2_with (first
          | (go_at_call 10; refine (unhide HE _).mono ?_; rintro e2 w2 ⟨rfl, hb⟩; have HB2 := hide ((unhide HB0).trans (hb.mono (unhide HB0).size)); have HA2 := hide ((unhide HA0).below hb); clear hb)
          | (go_at_call 11; refine (unhide HX _ _ _ (unhide HA2)).mono ?_; rintro e3 w3 ⟨ax, cx, rfl, hat, hb⟩; have HB3 := hide ((unhide HB2).trans (hb.mono (unhide HB2).size)); have HA3 := hide ((unhide HA2).below hb); have HR3 := hide hat; clear hat hb)
          | (go_at_call 7; refine (unhide HZ _ _ _ (unhide HA4) ((unhide HSP).below (unhide HB4))).mono ?_; rintro e5 w5 ⟨az, cz, rfl, hat, hb⟩; have HB5 := hide ((unhide HB4).trans (hb.mono (unhide HB4).size)); have HA5 := hide ((unhide HA4).below hb); have HR5 := hide hat; clear hat hb)
          | (go_at_call 12; refine (unhide HY _ _ _ (unhide HA6)).mono ?_; rintro e7 w7 ⟨ay, cy, rfl, hat, hb⟩; have HB7 := hide ((unhide HB6).trans (hb.mono (unhide HB6).size)); have HA7 := hide ((unhide HA6).below hb); have HR7 := hide hat; clear hat hb)
          | (go_at_call 6; have _x := unhide HB7; refine (unhide HSA _ _ _ _ _ (unhide HR7) (unhide HA7)).mono ?_; rintro e8 w8 ⟨rfl, hb⟩; have HB8 := hide ((unhide HB7).trans (hb.mono (unhide HB7).size)); clear hb)
          | (go_at_call 6; have _x := unhide HB5; refine (unhide HSA _ _ _ _ _ (unhide HR5) (unhide HA5)).mono ?_; rintro e6 w6 ⟨rfl, hb⟩; have HB6 := hide ((unhide HB5).trans (hb.mono (unhide HB5).size)); have HA6 := hide ((unhide HA5).below hb); clear hb)
          | (go_at_call 6; refine (unhide HSA _ _ _ _ _ (unhide HR3) (unhide HA3)).mono ?_; rintro e4 w4 ⟨rfl, hb⟩; have HB4 := hide ((unhide HB3).trans (hb.mono (unhide HB3).size)); have HA4 := hide ((unhide HA3).below hb); clear hb)
          | (go_at_call 13; refine (unhide HR _).mono ?_; rintro e9 w9 ⟨rfl, hb⟩; have HB9 := hide ((unhide HB8).trans (hb.mono (unhide HB8).size)); clear hb)
          | (go_at_call 9; refine (awake_any _).mono ?_; rintro ea wa ⟨rfl, hb⟩; have HBa := hide ((unhide HB9).trans (hb.mono (unhide HB9).size)); clear hb))
        go_ret
        exact ⟨rfl, unhide HBa⟩
end Go.Proofs.YtgbinemombgckaaDoor
