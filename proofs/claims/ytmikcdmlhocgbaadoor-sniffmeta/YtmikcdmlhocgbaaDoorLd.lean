/-
  A text's bytes in memory, made small one by one; smallText.
-/
import Derived.Test.YtmikcdmlhocgbaaDoorSa
namespace Go.Proofs.YtmikcdmlhocgbaaDoor
open Go.RowKit Go.Lib

theorem bytesRow_get (s : ByteArray) (cap k : Nat) (hk : k < s.size) : (bytesRow s cap)[k]? = (s.data.toList[k]?).map fun c => Value.int .u8 (c.toNat : Int) := by
  have hk' : k < s.data.size := hk
  unfold bytesRow
  rw [Array.getElem?_append_left (by simpa using hk')]
  simp

structure LowAt (w wx : World) (l : List UInt8) (j : Nat) : Prop where
  cells : ∀ k c, l[k]? = some c → wx.cell? ⟨w.heap.size, k, none⟩ = some (.int .u8 ((if k < j then low c else c).toNat : Int))
  free : ∀ k, k < l.length → wx.frozen? ⟨w.heap.size, k, none⟩ = false
  below : Below w.heap.size w wx
  lies : w.heap.size < wx.heap.size

theorem LowAt.same {w wx : World} {l : List UInt8} {j : Nat} (h : LowAt w wx l j) {c : UInt8} (hc : l[j]? = some c) (hl : low c = c) : LowAt w wx l (j + 1) :=
  ⟨fun k d hd => by
    rw [h.cells k d hd]
    by_cases e : k = j
    · subst e; rw [hc] at hd; cases hd; simp [hl]
    · by_cases e2 : k < j
      · rw [if_pos e2, if_pos (by omega)]
      · rw [if_neg e2, if_neg (by omega)], h.free, h.below, h.lies⟩
theorem LowAt.put {w wx : World} {l : List UInt8} {j : Nat} (h : LowAt w wx l j) {c : UInt8} (hc : l[j]? = some c) {v : Int} (hv : v = ((low c).toNat : Int)) (hcell : ∃ u, wx.cell? ⟨w.heap.size, j, none⟩ = some u) : LowAt w (wx.setCell ⟨w.heap.size, j, none⟩ (.int .u8 v)) l (j + 1) := by
  subst hv
  refine ⟨fun k d hd => ?_, fun k hk => ?_, h.below.setCell (Nat.le_refl _) _, by simpa using h.lies⟩
  · by_cases e : k = j
    · subst e
      rw [hc] at hd; cases hd
      obtain ⟨u, hu⟩ := hcell
      rw [World.cell?_setCell_same' _ _ _ (by rw [hu]; rfl)]
      simp
    · rw [show (wx.setCell ⟨w.heap.size, j, none⟩ (.int .u8 ((low c).toNat : Int))).cell? ⟨w.heap.size, k, none⟩ = wx.cell? ⟨w.heap.size, k, none⟩ by apply World.cell?_setCell_other; intro e2; cases e2; exact e rfl, h.cells k d hd]
      by_cases e2 : k < j
      · rw [if_pos e2, if_pos (by omega)]
      · rw [if_neg e2, if_neg (by omega)]
  · rw [World.frozen?_setCell]; exact h.free k hk
theorem LowAt.keep {w wx wy : World} {l : List UInt8} {j : Nat} (h : LowAt w wx l j) (hb : Below wx.heap.size wx wy) (k : Nat) (c : UInt8) (hc : l[k]? = some c) : wy.cell? ⟨w.heap.size, k, none⟩ = some (.int .u8 ((if k < j then low c else c).toNat : Int)) := by
  rw [hb.cell h.lies]; exact h.cells k c hc

theorem low_start (w : World) (s : ByteArray) (cap : Nat) : LowAt w (w.drew.alloc (.cells (bytesRow s cap) 5 ((bytesRow s cap).size, (bytesRow s cap).size + 1))) s.data.toList 0 := by
  have hb : (w.drew.alloc (.cells (bytesRow s cap) 5 ((bytesRow s cap).size, (bytesRow s cap).size + 1))).heap[w.heap.size]? = some (.cells (bytesRow s cap) 5 ((bytesRow s cap).size, (bytesRow s cap).size + 1)) := heap_alloc_new w.drew _
  have hsz : s.size ≤ (bytesRow s cap).size := by
    have e : s.size = s.data.size := rfl
    unfold bytesRow
    rw [Array.size_append, Array.size_map]
    omega
  refine ⟨fun k c hc => ?_, fun k hk => ?_, (Below.refl _ w).drew.alloc (Nat.le_refl _) _, by simp⟩
  · have hk : k < s.size := by have := (List.getElem?_eq_some_iff.1 hc).1; rwa [len_data] at this
    rw [cell_of_row _ w.heap.size k _ _ _ hb, bytesRow_get s cap k hk, hc]
    simp
  · have hk' : k < s.size := by rwa [len_data] at hk
    unfold World.frozen?
    simp only [hb]
    simp
    omega

theorem low_back (w W : World) (x : ByteArray) (cap : Nat) (h : ∀ k c, x.data.toList[k]? = some c → W.cell? ⟨w.heap.size, k, none⟩ = some (.int .u8 ((low c).toNat : Int))) :
    (convert 22 9 (.slice (some ⟨w.heap.size, 0, none⟩) x.size cap)).run Tryd.prog W = .ok (.string ⟨(x.data.toList.map low).toArray⟩) W := by
  have := run_convert_bytes_back (P := Tryd.prog) W 22 9 5 ⟨w.heap.size, 0, none⟩ cap (x.data.toList.map low) Tryd.underlying22 Tryd.underlying5 Tryd.underlying9 (fun j hj => by
    have hj' : j < x.data.toList.length := by simpa using hj
    have := h j _ (List.getElem?_eq_getElem hj')
    have ad : (⟨w.heap.size, 0, none⟩ : Addr).add j = ⟨w.heap.size, j, none⟩ := by unfold Addr.add; split <;> simp_all
    rw [ad, this]
    simp)
  rw [List.length_map, len_data] at this
  exact this

set_option maxHeartbeats 2000000 in
theorem smallText_any (s : ByteArray) (w : World) (hs : (s.size : Int) < 281474976710656) :
    Calls Tryd.prog 80 #[.string s] w fun e w' => e = .returned (.string ⟨(s.data.toList.map low).toArray⟩) ∧ Below w.heap.size w w' := by
  have hwj : ∀ j : Nat, j < s.size → IntKind.i64.wrap ((j : Int) + 1) = (j : Int) + 1 := fun j hj => wrap_add j 1 (by omega) (by omega)
  have HWJ := hide hwj
  have hcv := fun W => run_bytes_of_string (P := Tryd.prog) W 9 22 5 s Tryd.underlying9 Tryd.underlying22 Tryd.underlying5
  clear hwj hs
  go_enter Tryd.func80, Tryd.ntmps80
  go_wp2
  go_loopg [4, 5, 10] s.size (fun g _ _ s10 wx => ∃ j : Nat, s10 = .int .i64 j ∧ j + g = s.size ∧ LowAt w wx s.data.toList j)
  case atStart => exact ⟨0, rfl, by omega, low_start w s _⟩
  case round =>
    obtain ⟨j, rfl, hjg, hlo⟩ := hrel
    have HLO := hide hlo
    by_cases hj : j < s.size
    · have hjz : (j : Int) < (s.size : Int) := by omega
      have hwj := (unhide HWJ) j hj
      obtain ⟨c, hc⟩ : ∃ c, s.data.toList[j]? = some c := ⟨_, Lib.data_getElem? s j hj⟩
      have c0 := hlo.cells j c hc
      rw [if_neg (Nat.lt_irrefl j)] at c0
      have f0 := hlo.free j (by rw [len_data]; exact hj)
      have HC := hide hc
      clear hlo hc
      go_wp2_with (first | (go_at_call 49; refine (small_any c _).mono ?_; rintro e w' ⟨rfl, rfl⟩))
      go_roundg (gk - 1)
      case measure => omega
      case rel => exact ⟨j + 1, by go_num, by omega, (unhide HLO).put (unhide HC) rfl ⟨_, c0⟩⟩
    · have hjz : ¬ (j : Int) < (s.size : Int) := by omega
      obtain rfl : j = s.size := by omega
      have HBK : Hid (∀ cap, (convert 22 9 (.slice (some ⟨w.heap.size, 0, none⟩) s.size cap)).run Tryd.prog wr = .ok (.string ⟨(s.data.toList.map low).toArray⟩) wr) := hide (fun cap => low_back w wr s cap (fun k c hc => by
        have hk : k < s.size := by have := (List.getElem?_eq_some_iff.1 hc).1; rwa [len_data] at this
        have := (unhide HLO).cells k c hc
        rwa [if_pos hk] at this))
      have hbk := unhide HBK
      clear hlo
      go_wp2
      go_ret
      exact ⟨rfl, (unhide HLO).below⟩
end Go.Proofs.YtmikcdmlhocgbaaDoor
