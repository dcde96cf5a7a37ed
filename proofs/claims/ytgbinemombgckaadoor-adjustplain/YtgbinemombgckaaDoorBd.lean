/-
  A copy of a list of attributes, in a block of its own.
-/
import Derived.Test.YtgbinemombgckaaDoorBc
import Derived.Test.YtgbinemombgckaaDoorAs
namespace Go.Proofs.YtgbinemombgckaaDoor
open Go.RowKit Go.Lib

/-- A list of attributes in a block of its own, newer than w. -/
structure Lst (w wx : World) (g : Nat) (m : List AttrM) : Prop where
  blk : ∃ cur, wx.heap[g]? = some (.cells cur 29 (0, 0)) ∧ ∀ (j : Nat) v, (attrRow m)[j]? = some v → cur[j]? = some v
  ge : w.heap.size ≤ g
  below : Below w.heap.size w wx
theorem Lst.more {w wx w' : World} {g : Nat} {m : List AttrM} (h : Lst w wx g m) (hb : Below wx.heap.size wx w') : Lst w w' g m := by
  obtain ⟨cur, hc, hv⟩ := h.blk
  exact ⟨⟨cur, (hb.block g (lt_of_block hc)).trans hc, hv⟩, h.ge, h.below.trans (hb.mono h.below.size)⟩
theorem Lst.dn {w wx : World} {g : Nat} {m : List AttrM} (h : Lst w wx g m) (n : Nat) : Lst w (wx.drewN n) g m := ⟨h.blk, h.ge, below_dn h.below n⟩
theorem Lst.dr {w wx : World} {g : Nat} {m : List AttrM} (h : Lst w wx g m) : Lst w wx.drew g m := ⟨h.blk, h.ge, h.below.drew⟩
theorem Lst.row {w wx : World} {g : Nat} {m : List AttrM} (h : Lst w wx g m) {i j : Nat} {x : AttrM} (hx : m[i]? = some x) (hj : j < 4) : wx.cell? ⟨g, i * 4 + j, none⟩ = x.cells[j]? := by
  obtain ⟨cur, hc, hv⟩ := h.blk
  obtain ⟨v, hv1⟩ : ∃ v, x.cells[j]? = some v := ⟨_, List.getElem?_eq_getElem (by rw [attr_len]; exact hj)⟩
  rw [cell_row _ g _ _ _ _ hc, hv1]
  apply hv
  rw [attrRow, flat_get AttrM.cells 4 attr_len m i j hj, hx]
  exact hv1
theorem Lst.cells {w wx : World} {g : Nat} {m : List AttrM} (h : Lst w wx g m) {i : Nat} {x : AttrM} (hx : m[i]? = some x) :
    wx.cell? ⟨g, i * 4, none⟩ = some (.int .i64 x.space) ∧ wx.cell? ⟨g, i * 4 + 1, none⟩ = some (.string x.pre) ∧ wx.cell? ⟨g, i * 4 + 2, none⟩ = some (.string x.name) ∧ wx.cell? ⟨g, i * 4 + 3, none⟩ = some (.string x.val) ∧ wx.frozen? ⟨g, i * 4 + 2, none⟩ = false :=
  ⟨h.row hx (j := 0) (by omega), h.row hx (j := 1) (by omega), h.row hx (j := 2) (by omega), h.row hx (j := 3) (by omega), by obtain ⟨cur, hc, _⟩ := h.blk; simp [World.frozen?, hc]⟩
theorem Lst.attrs {w wx : World} {g : Nat} {m : List AttrM} (h : Lst w wx g m) : AttrsIn wx (some ⟨g, 0, none⟩) m :=
  ⟨fun i x hx => ⟨g, 0, rfl, by obtain ⟨c0, c1, c2, c3, _⟩ := h.cells hx; simp only [Nat.zero_add]; exact ⟨c0, c1, c2, c3⟩⟩⟩
theorem Lst.put {w wx : World} {g : Nat} {m : List AttrM} (h : Lst w wx g m) {i : Nat} {x : AttrM} (hx : m[i]? = some x) (n : ByteArray) : Lst w (wx.setCell ⟨g, i * 4 + 2, none⟩ (.string n)) g (m.set i { x with name := n }) := by
  obtain ⟨cur, hc, hv⟩ := h.blk
  refine ⟨⟨_, heap_set wx g (i * 4 + 2) cur _ (.string n) hc, fun j v hj => ?_⟩, h.ge, h.below.setCell (p := ⟨g, i * 4 + 2, none⟩) h.ge _⟩
  have hlen : j < m.length * 4 := by have := (List.getElem?_eq_some_iff.1 hj).1; rw [attrRow_len, List.length_set] at this; exact this
  obtain ⟨k, r, rfl, hr⟩ : ∃ k r, j = k * 4 + r ∧ r < 4 := ⟨j / 4, j % 4, by omega, by omega⟩
  have hi : i < m.length := (List.getElem?_eq_some_iff.1 hx).1
  rw [attrRow, flat_get AttrM.cells 4 attr_len _ k r hr] at hj
  by_cases hk : k = i
  · subst hk
    rw [List.getElem?_set_self hi] at hj
    have hold : ∀ r', r' < 4 → cur[k * 4 + r']? = x.cells[r']? := fun r' hr' => by
      obtain ⟨v', hv'⟩ : ∃ v, x.cells[r']? = some v := ⟨_, List.getElem?_eq_getElem (by rw [attr_len]; exact hr')⟩
      rw [hv']
      apply hv
      rw [attrRow, flat_get AttrM.cells 4 attr_len m k r' hr', hx]
      exact hv'
    have hsz : k * 4 + 2 < cur.size := by
      have := hold 2 (by omega)
      exact (Array.getElem?_eq_some_iff.1 this).1
    match r, hr with
    | 0, _ => simp [AttrM.cells] at hj; subst hj; rw [Array.getElem?_setIfInBounds_ne (by omega)]; exact hold 0 (by omega)
    | 1, _ => simp [AttrM.cells] at hj; subst hj; rw [Array.getElem?_setIfInBounds_ne (by omega)]; exact hold 1 (by omega)
    | 2, _ => simp [AttrM.cells] at hj; subst hj; simp [hsz]
    | 3, _ => simp [AttrM.cells] at hj; subst hj; rw [Array.getElem?_setIfInBounds_ne (by omega)]; exact hold 3 (by omega)
  · rw [List.getElem?_set_ne (by omega)] at hj
    rw [Array.getElem?_setIfInBounds_ne (by omega)]
    apply hv
    rw [attrRow, flat_get AttrM.cells 4 attr_len m k r hr]
    exact hj
theorem lst_of {w w0 w' : World} {g k n cp : Nat} {m : List AttrM} {xs : List Value} (hm : xs = attrRow m) (ho : w'.ownsRow k 29 4 (.slice (some ⟨g, 0, none⟩) n cp) n xs) (hb : Below w.heap.size w w0) (hk : w.heap.size ≤ k) (hgr : w0.grownBy w' (some k)) : Lst w w' g m := by
  subst hm
  have hbel := hb.grown hgr hb.size (fun k' hk' => by have : k = k' := Option.some.inj hk'; omega)
  have hlen := ho.1
  rcases ho.2 with ⟨h', _⟩ | ⟨g', cap', cur, h', hb', hg', _, _, _, htake⟩
  · cases h'
  · injection h' with h1 _ _
    injection h1 with h1
    injection h1 with h1
    subst h1
    refine ⟨⟨cur, hg', fun j v hj => ?_⟩, Nat.le_trans hk hb', hbel⟩
    rw [← htake, List.getElem?_take] at hj
    split at hj
    · simpa using hj
    · cases hj

/-- A list whose first i attributes are changed. -/
def mix (f : AttrM → AttrM) (l : List AttrM) (i : Nat) : List AttrM := (l.take i).map f ++ l.drop i
theorem mix_len (f : AttrM → AttrM) (l : List AttrM) (i : Nat) : (mix f l i).length = l.length := by simp [mix]; omega
theorem mix_zero (f : AttrM → AttrM) (l : List AttrM) : mix f l 0 = l := by simp [mix]
theorem mix_end (f : AttrM → AttrM) (l : List AttrM) : mix f l l.length = l.map f := by simp [mix]
theorem mix_at (f : AttrM → AttrM) {l : List AttrM} {i : Nat} {x : AttrM} (hx : l[i]? = some x) : (mix f l i)[i]? = some x := by
  have hi : i < l.length := (List.getElem?_eq_some_iff.1 hx).1
  unfold mix
  rw [List.getElem?_append_right (by simp; omega)]
  simp [Nat.min_eq_left (Nat.le_of_lt hi), hx]
theorem mix_succ (f : AttrM → AttrM) {l : List AttrM} {i : Nat} {x : AttrM} (hx : l[i]? = some x) : mix f l (i + 1) = (mix f l i).set i (f x) := by
  have hi : i < l.length := (List.getElem?_eq_some_iff.1 hx).1
  unfold mix
  rw [take_snoc hx, List.set_append_right _ _ (by simp; omega)]
  have e : i - ((l.take i).map f).length = 0 := by simp; omega
  rw [e, List.append_assoc]
  congr 1
  rw [show l.drop i = l[i] :: l.drop (i + 1) from List.drop_eq_getElem_cons hi]
  rfl
theorem set_same {l : List AttrM} {i : Nat} {x : AttrM} (hx : l[i]? = some x) : l.set i x = l := by
  have hi : i < l.length := (List.getElem?_eq_some_iff.1 hx).1
  rw [List.getElem?_eq_getElem hi] at hx
  injection hx with hx
  rw [← hx]
  exact List.set_getElem_self hi
theorem isName_eq (x : AttrM) (n : ByteArray) (h0 : x.space = 0) : isName x n = (x.name.toList == n.toList) := by simp [isName, h0]
theorem defurl_list : defurl.toList = [100, 101, 102, 105, 110, 105, 116, 105, 111, 110, 117, 114, 108] := by rw [toList_data]; rfl
theorem news_of {w : World} {a : Option Addr} {l : List AttrM} (h : AttrsIn w a l) : ∀ b off, a = some ⟨b, off, none⟩ → ∀ j u, (attrRow l)[j]? = some u → w.cell? ((⟨b, off, none⟩ : Addr).add j) = some u := fun b off e => by subst e; exact h.row

end Go.Proofs.YtgbinemombgckaaDoor
