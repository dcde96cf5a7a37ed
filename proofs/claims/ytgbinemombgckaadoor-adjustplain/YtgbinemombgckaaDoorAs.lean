/-
  The document's Small: a text with a to z for A to Z.
-/
import Derived.Test.YtgbinemombgckaaDoorAc
import Derived.Laws.IdiomStrings
namespace Go.Proofs.YtgbinemombgckaaDoor
open Go.RowKit Go.Lib

def lowS (s : ByteArray) : ByteArray := ⟨(s.data.toList.map low).toArray⟩
theorem bytesRow_get (s : ByteArray) (cap k : Nat) (hk : k < s.size) : (bytesRow s cap)[k]? = (s.data.toList[k]?).map fun c => Value.int .u8 (c.toNat : Int) := by
  have hk' : k < s.data.size := hk
  unfold bytesRow
  rw [Array.getElem?_append_left (by simpa using hk')]
  simp

structure LowAt (w wx : World) (l : List UInt8) (j : Nat) : Prop where
  cells : ∀ k c, l[k]? = some c → wx.cell? ⟨w.heap.size, k, none⟩ = some (.int .u8 ((if k < j then low c else c).toNat : Int))
  free : ∀ k, k < l.length → wx.frozen? ⟨w.heap.size, k, none⟩ = false
  below : Below w.heap.size w wx

theorem LowAt.same {w wx : World} {l : List UInt8} {j : Nat} (h : LowAt w wx l j) {c : UInt8} (hc : l[j]? = some c) (hl : low c = c) : LowAt w wx l (j + 1) :=
  ⟨fun k d hd => by
    rw [h.cells k d hd]
    by_cases e : k = j
    · subst e; rw [hc] at hd; cases hd; simp [hl]
    · by_cases e2 : k < j
      · rw [if_pos e2, if_pos (by omega)]
      · rw [if_neg e2, if_neg (by omega)], h.free, h.below⟩
theorem LowAt.put {w wx : World} {l : List UInt8} {j : Nat} (h : LowAt w wx l j) {c : UInt8} (hc : l[j]? = some c) {v : Int} (hv : v = ((low c).toNat : Int)) (hcell : ∃ u, wx.cell? ⟨w.heap.size, j, none⟩ = some u) : LowAt w (wx.setCell ⟨w.heap.size, j, none⟩ (.int .u8 v)) l (j + 1) := by
  subst hv
  refine ⟨fun k d hd => ?_, fun k hk => ?_, h.below.setCell (Nat.le_refl _) _⟩
  · by_cases e : k = j
    · subst e
      rw [hc] at hd; cases hd
      obtain ⟨u, hu⟩ := hcell
      rw [World.cell?_setCell_same' _ _ _ (by rw [hu]; rfl)]
      simp
    · rw [show (wx.setCell ⟨w.heap.size, j, none⟩ (.int .u8 ((low c).toNat : Int))).cell? ⟨w.heap.size, k, none⟩ = wx.cell? ⟨w.heap.size, k, none⟩ by apply World.cell?_setCell_other; intro e2; cases e2; exact e rfl, h.cells k d hd]
      by_cases e2 : k < j
      · rw [if_pos e2, if_pos (by omega)]
      · rw [if_neg e2, if_neg (by omega)]
  · rw [World.frozen?_setCell]; exact h.free k hk

theorem low_start (w : World) (s : ByteArray) (cap : Nat) (_hcap : s.size ≤ cap) : LowAt w (w.drew.alloc (.cells (bytesRow s cap) 5 ((bytesRow s cap).size, (bytesRow s cap).size + 1))) s.data.toList 0 := by
  have hb : (w.drew.alloc (.cells (bytesRow s cap) 5 ((bytesRow s cap).size, (bytesRow s cap).size + 1))).heap[w.heap.size]? = some (.cells (bytesRow s cap) 5 ((bytesRow s cap).size, (bytesRow s cap).size + 1)) := heap_alloc_new w.drew _
  have hsz : s.size ≤ (bytesRow s cap).size := by
    have e : s.size = s.data.size := rfl
    unfold bytesRow
    rw [Array.size_append, Array.size_map]
    omega
  refine ⟨fun k c hc => ?_, fun k hk => ?_, (Below.refl _ w).drew.alloc (Nat.le_refl _) _⟩
  · have hk : k < s.size := by have := (List.getElem?_eq_some_iff.1 hc).1; rwa [len_data] at this
    rw [cell_row _ w.heap.size k _ _ _ hb, bytesRow_get s cap k hk, hc]
    simp
  · have hk' : k < s.size := by rwa [len_data] at hk
    unfold World.frozen?
    simp only [hb]
    simp
    omega

set_option maxHeartbeats 2000000 in
theorem rsmall_any (s : ByteArray) (w : World) (hs : (s.size : Int) ≤ 140737488355328) :
    Calls Tryd.prog 13 #[.string s] w fun e w' => e = .returned (.string (lowS s)) ∧ Below w.heap.size w w' := by
  have hcv := fun W => run_bytes_of_string (P := Tryd.prog) W 9 39 5 s Tryd.underlying9 Tryd.underlying39 Tryd.underlying5
  have hn := len_data s
  have HN := hide hn
  clear hn
  obtain ⟨cap, hcap⟩ : ∃ cap, cap = grownCap w s.size 0 5 := ⟨_, rfl⟩
  have HLS : Hid (LowAt w (w.drew.alloc (.cells (bytesRow s cap) 5 ((bytesRow s cap).size, (bytesRow s cap).size + 1))) s.data.toList 0) := hide (low_start w s cap (by rw [hcap]; exact grownCap_ge w s.size 0 5))
  rw [hcap] at HLS
  have HBK : Hid (∀ W, LowAt w W s.data.toList s.size → (convert 39 9 (.slice (some ⟨w.heap.size, 0, none⟩) s.size cap)).run Tryd.prog W = .ok (.string (lowS s)) W) := hide (fun W hW => by
    have := run_convert_bytes_back (P := Tryd.prog) W 39 9 5 ⟨w.heap.size, 0, none⟩ cap (s.data.toList.map low) Tryd.underlying39 Tryd.underlying5 Tryd.underlying9 (fun j hj => by
      have hj' : j < s.data.toList.length := by simpa using hj
      have := hW.cells j _ (List.getElem?_eq_getElem hj')
      rw [if_pos (by rw [← unhide HN]; exact hj')] at this
      have ad : (⟨w.heap.size, 0, none⟩ : Addr).add j = ⟨w.heap.size, j, none⟩ := by unfold Addr.add; split <;> simp_all
      rw [ad, this]
      simp)
    rw [List.length_map, unhide HN] at this
    exact this)
  rw [hcap] at HBK
  clear hcap
  have hsz : (s.size : Int) ≤ 140737488355328 := hs
  go_enter Tryd.func13, Tryd.ntmps13
  go_wp2
  go_loopg [4] s.size (fun k sl wx => ∃ j : Nat, sl = .int .i64 j ∧ j + k = s.size ∧ LowAt w wx s.data.toList j)
  case atStart => exact ⟨0, rfl, by omega, unhide HLS⟩
  case round =>
    obtain ⟨j, rfl, hjk, hlo⟩ := hrel
    by_cases hj : j < s.size
    · have hjz : (j : Int) < (s.size : Int) := by omega
      have hx : s.data.toList[j]? = some s.data.toList[j] := List.getElem?_eq_getElem (by rw [unhide HN]; exact hj)
      generalize s.data.toList[j] = c at hx
      have d0 := hlo.cells j c hx
      rw [if_neg (Nat.lt_irrefl _)] at d0
      have f0 := hlo.free j (by rw [unhide HN]; exact hj)
      have HLO := hide hlo
      have HX := hide hx
      clear hlo hx
      by_cases h2 : (65 : Int) ≤ (c.toNat : Int)
      · by_cases h3 : (c.toNat : Int) ≤ 90
        · have HLC := hide (low_cap c (by omega) (by omega))
          go_wp2
          go_roundg (gk - 1)
          case measure => omega
          case rel => exact ⟨j + 1, by go_num, by omega, (unhide HLO).put (unhide HX) (by rw [unhide HLC]) ⟨_, d0⟩⟩
        · have HLC := hide (low_other c (by omega))
          go_wp2
          go_roundg (gk - 1)
          case measure => omega
          case rel => exact ⟨j + 1, by go_num, by omega, (unhide HLO).same (unhide HX) (unhide HLC)⟩
      · have HLC := hide (low_other c (by omega))
        go_wp2
        go_roundg (gk - 1)
        case measure => omega
        case rel => exact ⟨j + 1, by go_num, by omega, (unhide HLO).same (unhide HX) (unhide HLC)⟩
    · have hjz : ¬ (j : Int) < (s.size : Int) := by omega
      obtain rfl : j = s.size := by omega
      have hbk := (unhide HBK) _ hlo
      have HLO := hide hlo.below
      clear hlo
      go_wp2
      go_ret
      exact ⟨rfl, unhide HLO⟩



theorem toList_data (s : ByteArray) : s.toList = s.data.toList := by rw [ByteArray.toList_eq]
theorem lowS_list (s : ByteArray) : (lowS s).toList = s.data.toList.map low := by rw [toList_data]; rfl
theorem low_eq (s t : ByteArray) : ((lowS s).toList == t.toList) = isM s t := by
  rw [lowS_list, toList_data]
  unfold isM
  rw [Bool.eq_iff_iff]
  simp
end Go.Proofs.YtgbinemombgckaaDoor
