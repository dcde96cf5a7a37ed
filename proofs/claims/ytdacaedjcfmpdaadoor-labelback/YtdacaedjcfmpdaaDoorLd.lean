/-
  The document's Of.
-/
import Derived.Test.YtdacaedjcfmpdaaDoorLc
namespace Go.Proofs.YtdacaedjcfmpdaaDoor
open Go.RowKit Go.Lib

theorem bytesRow_get (s : ByteArray) (cap k : Nat) (hk : k < s.size) : (bytesRow s cap)[k]? = (s.data.toList[k]?).map fun c => Value.int .u8 (c.toNat : Int) := by
  have hk' : k < s.data.size := hk
  unfold bytesRow
  rw [Array.getElem?_append_left (by simpa using hk')]
  simp

structure LowAt (w wx : World) (l : List UInt8) (j : Nat) : Prop where
  cells : ∀ k c, l[k]? = some c → wx.cell? ⟨w.heap.size, k, none⟩ = some (.int .u8 ((if k < j then low c else c).toNat : Int))
  free : ∀ k, k < l.length → wx.frozen? ⟨w.heap.size, k, none⟩ = false
  below : Below w.heap.size w wx
  lies : w.heap.size < wx.heap.size

theorem LowAt.same {w wx : World} {l : List UInt8} {j : Nat} (h : LowAt w wx l j) {c : UInt8} (hc : l[j]? = some c) (hl : low c = c) : LowAt w wx l (j + 1) :=
  ⟨fun k d hd => by
    rw [h.cells k d hd]
    by_cases e : k = j
    · subst e; rw [hc] at hd; cases hd; simp [hl]
    · by_cases e2 : k < j
      · rw [if_pos e2, if_pos (by omega)]
      · rw [if_neg e2, if_neg (by omega)], h.free, h.below, h.lies⟩
theorem LowAt.put {w wx : World} {l : List UInt8} {j : Nat} (h : LowAt w wx l j) {c : UInt8} (hc : l[j]? = some c) {v : Int} (hv : v = ((low c).toNat : Int)) (hcell : ∃ u, wx.cell? ⟨w.heap.size, j, none⟩ = some u) : LowAt w (wx.setCell ⟨w.heap.size, j, none⟩ (.int .u8 v)) l (j + 1) := by
  subst hv
  refine ⟨fun k d hd => ?_, fun k hk => ?_, h.below.setCell (Nat.le_refl _) _, by simpa using h.lies⟩
  · by_cases e : k = j
    · subst e
      rw [hc] at hd; cases hd
      obtain ⟨u, hu⟩ := hcell
      rw [World.cell?_setCell_same' _ _ _ (by rw [hu]; rfl)]
      simp
    · rw [show (wx.setCell ⟨w.heap.size, j, none⟩ (.int .u8 ((low c).toNat : Int))).cell? ⟨w.heap.size, k, none⟩ = wx.cell? ⟨w.heap.size, k, none⟩ by apply World.cell?_setCell_other; intro e2; cases e2; exact e rfl, h.cells k d hd]
      by_cases e2 : k < j
      · rw [if_pos e2, if_pos (by omega)]
      · rw [if_neg e2, if_neg (by omega)]
  · rw [World.frozen?_setCell]; exact h.free k hk
theorem LowAt.keep {w wx wy : World} {l : List UInt8} {j : Nat} (h : LowAt w wx l j) (hb : Below wx.heap.size wx wy) (k : Nat) (c : UInt8) (hc : l[k]? = some c) : wy.cell? ⟨w.heap.size, k, none⟩ = some (.int .u8 ((if k < j then low c else c).toNat : Int)) := by
  rw [hb.cell h.lies]; exact h.cells k c hc

theorem low_start (w : World) (s : ByteArray) (cap : Nat) (_hcap : s.size ≤ cap) : LowAt w (w.drew.alloc (.cells (bytesRow s cap) 5 ((bytesRow s cap).size, (bytesRow s cap).size + 1))) s.data.toList 0 := by
  have hb : (w.drew.alloc (.cells (bytesRow s cap) 5 ((bytesRow s cap).size, (bytesRow s cap).size + 1))).heap[w.heap.size]? = some (.cells (bytesRow s cap) 5 ((bytesRow s cap).size, (bytesRow s cap).size + 1)) := heap_alloc_new w.drew _
  have hsz : s.size ≤ (bytesRow s cap).size := by
    have e : s.size = s.data.size := rfl
    unfold bytesRow
    rw [Array.size_append, Array.size_map]
    omega
  refine ⟨fun k c hc => ?_, fun k hk => ?_, (Below.refl _ w).drew.alloc (Nat.le_refl _) _, by simp⟩
  · have hk : k < s.size := by have := (List.getElem?_eq_some_iff.1 hc).1; rwa [len_data] at this
    rw [cell_of_row _ w.heap.size k _ _ _ hb, bytesRow_get s cap k hk, hc]
    simp
  · have hk' : k < s.size := by rwa [len_data] at hk
    unfold World.frozen?
    simp only [hb]
    simp
    omega

theorem low_back (w W : World) (x : ByteArray) (cap : Nat) (h : ∀ k c, x.data.toList[k]? = some c → W.cell? ⟨w.heap.size, k, none⟩ = some (.int .u8 ((low c).toNat : Int))) :
    (convert 35 9 (.slice (some ⟨w.heap.size, 0, none⟩) x.size cap)).run Tryd.prog W = .ok (.string ⟨(x.data.toList.map low).toArray⟩) W := by
  have := run_convert_bytes_back (P := Tryd.prog) W 35 9 5 ⟨w.heap.size, 0, none⟩ cap (x.data.toList.map low) Tryd.underlying35 Tryd.underlying5 Tryd.underlying9 (fun j hj => by
    have hj' : j < x.data.toList.length := by simpa using hj
    have := h j _ (List.getElem?_eq_getElem hj')
    have ad : (⟨w.heap.size, 0, none⟩ : Addr).add j = ⟨w.heap.size, j, none⟩ := by unfold Addr.add; split <;> simp_all
    rw [ad, this]
    simp)
  rw [List.length_map, len_data] at this
  exact this

set_option maxHeartbeats 4000000 in
theorem refOf_any (s : ByteArray) (w : World) (hs : s.size ≤ 9223372036854775807) :
    Calls Tryd.prog 9 #[.string s] w fun e w' => e = .returned (.tuple #[.int .i64 (ofE (norm s.data.toList)), .int .i64 (ofF (norm s.data.toList))]) ∧ Below w.heap.size w w' := by
  have hsz : (s.size : Int) ≤ 9223372036854775807 := by omega
  have HTC := hide (trim_comm s.data.toList)
  have hnm : norm s.data.toList = (Lib.trimS s.data.toList cs).map low := rfl
  obtain ⟨t, ht⟩ : ∃ t, t = (Lib.trimS s.data.toList cs).map low := ⟨_, rfl⟩
  rw [hnm, ← ht]
  have HTT := hide ht
  clear hnm ht hs
  by_cases hA : Lib.trimLeftS s.data.toList cs = []
  · have HA := hide hA
    clear hA
    go_enter Tryd.func9, Tryd.ntmps9
    go_wp2
    go_loopg [0] s.size (fun g s0 wx => ∃ x : ByteArray, s0 = .string x ∧ x.size = g ∧ Lib.trimLeftS s.data.toList cs = Lib.trimLeftS x.data.toList cs ∧ x.size ≤ s.size ∧ w = wx)
    case atStart => exact ⟨s, rfl, rfl, rfl, Nat.le_refl _, rfl⟩
    case round =>
      obtain ⟨x, rfl, rfl, hxx, hle, rfl⟩ := hrel
      have hlz : (x.size : Int) ≤ 9223372036854775807 := by omega
      by_cases h0 : 0 < x.size
      · have h0z : (0 : Int) < (x.size : Int) := by omega
        obtain ⟨c, hc⟩ : ∃ c : UInt8, x[0]'h0 = c := ⟨_, rfl⟩
        have hb : cs.contains c = true := by
          rw [unhide HA] at hxx
          cases hq : cs.contains c with
          | true => rfl
          | false =>
            rw [left_no x h0 (by rw [hc]; exact hq)] at hxx
            have := len_data x; rw [← hxx] at this; simp at this; omega
        have HBL := hide (fun w => blank_any c w)
        rw [hb] at HBL
        have HXX := hide (hxx.trans (left_yes x h0 (by rw [hc]; exact hb)))
        clear hb hxx
        go_wp2_with (go_at_call 18; refine ((unhide HBL) _).mono ?_; rintro e w' ⟨rfl, rfl⟩)
        go_roundg (x.size - 1)
        case measure => omega
        case rel => exact ⟨x.extract 1 x.size, rfl, by rw [ByteArray.size_extract]; omega, unhide HXX, by rw [ByteArray.size_extract]; omega, rfl⟩
      · have h0z : ¬ (0 : Int) < (x.size : Int) := by omega
        have hx0 : x.size = 0 := by omega
        have hxl : x.data.toList = [] := by rw [← List.length_eq_zero_iff, len_data]; exact hx0
        have hxt : x.data.toList.map low = t := by rw [unhide HTT, ← unhide HTC, hxx, hxl]; rfl
        obtain rfl : x = ⟨#[]⟩ := by
          obtain ⟨d⟩ := x
          obtain ⟨l⟩ := d
          have : l = [] := hxl
          rw [this]
        have HT := hide hxt
        have hcv := fun W => run_bytes_of_string (P := Tryd.prog) W 9 35 5 ⟨#[]⟩ Tryd.underlying9 Tryd.underlying35 Tryd.underlying5
        clear hxx hxl hxt hx0 h0 h0z HA HTC HTT hle hlz
        go_wp2
        go_loopg [0] 0 (fun _ s0 wx => s0 = .string ⟨#[]⟩ ∧ w = wx)
        case atStart => exact ⟨rfl, rfl⟩
        case round =>
          obtain ⟨rfl, rfl⟩ := hrel
          go_wp2
          go_loopg [5] 0 (fun _ sl wx => sl = .int .i64 0 ∧ LowAt w wx [] 0)
          case atStart =>
            refine ⟨rfl, ⟨fun k c h => by simp at h, fun k h => by simp at h, ?_, by simp⟩⟩
            exact ((Below.refl _ w).alloc (Nat.le_refl _) _).drew
          case round =>
            obtain ⟨rfl, hlo⟩ := hrel
            have HLO := hide hlo
            clear hlo
            have HBK : Hid (∀ W, Below wr.heap.size wr W → (convert 35 9 (.slice (some ⟨w.heap.size, 0, none⟩) 0 (grownCap w 0 0 5))).run Tryd.prog W = .ok (.string ⟨t.toArray⟩) W) := hide (fun W hW => by
              have := low_back w W ⟨#[]⟩ (grownCap w 0 0 5) (fun k c hc => by simp at hc)
              rw [unhide HT] at this
              exact this)
            have HWR := hide (unhide HLO).below
            clear HLO
            go_wp2_with (go_at_call 19; refine (labels_any _).mono ?_; rintro e w5 ⟨rfl, hr5, hb5⟩; have HR5 := hide hr5; have HB5 := hide hb5; clear hr5 hb5)
            go_loopg [7, 8] 7 (fun g s7 _ wy => ∃ i : Nat, s7 = .int .i64 i ∧ i + g = 7 ∧ Below w5.heap.size w5 wy ∧ (∀ (j : Nat) L, j < i → labs[j]? = some L → ¬ t ∈ L))
            case atStart => exact ⟨0, rfl, rfl, Below.refl _ _, fun j L h => by omega⟩
            case round =>
              obtain ⟨i, rfl, hig, hby, hpre⟩ := hrel
              have HP := hide hpre
              have HY := hide hby
              clear hpre hby
              by_cases hi : i < 7
              · have hiz : (i : Int) < 7 := by omega
                obtain ⟨L, hL⟩ : ∃ L, labs[i]? = some L := ⟨_, List.getElem?_eq_getElem (by rw [labs_len]; exact hi)⟩
                have hl12 : (L.length : Int) ≤ 12 := by have := of_decide_eq_true (List.all_eq_true.1 labs_most L (List.mem_of_getElem? hL)); omega
                have HL := hide hL
                clear hL
                go_wp2
                go_loopg [8] L.length (fun g s8 wz => ∃ k : Nat, s8 = .int .i64 k ∧ k + g = L.length ∧ Below w5.heap.size w5 wz ∧ (∀ (m : Nat) y, m < k → L[m]? = some y → y ≠ t))
                case atStart => exact ⟨0, rfl, by omega, unhide HY, fun m y h => by omega⟩
                case round =>
                  obtain ⟨k, rfl, hkg, hbz, hpk⟩ := hrel
                  have hR := (unhide HR5).below hbz
                  have q1 := hR.at_ i L (unhide HL)
                  have HPK := hide hpk
                  have HZ := hide hbz
                  have hbk := fun n => (unhide HBK) (wr.drewN n) (below_dn ((unhide HB5).trans (hbz.mono (unhide HB5).size)) n)
                  clear hpk hbz
                  by_cases hk : k < L.length
                  · have hkz : (k : Int) < (L.length : Int) := by omega
                    obtain ⟨y2, hy2⟩ : ∃ y, L[k]? = some y := ⟨_, List.getElem?_eq_getElem hk⟩
                    have q2 := hR.str i L k y2 (unhide HL) hy2
                    have HY2 := hide hy2
                    clear hR hy2
                    by_cases he : y2 = t
                    · subst he
                      go_wp2
                      go_quiet (fail)
                      go_wp2
                      go_ret2
                      have e1 := ofP_some y2 i L (unhide HL) (List.mem_of_getElem? (unhide HY2)) (unhide HP)
                      refine ⟨by simp [ofE, ofF, e1], ?_⟩
                      exact (unhide HWR).trans (((unhide HB5).trans (below_dn (unhide HZ) _ |>.mono (unhide HB5).size)).mono (unhide HWR).size)
                    · have hne : (y2 == t) = false := by simpa using he
                      have HE := hide he
                      clear he
                      go_wp2
                      go_quiet (fail)
                      go_wp2
                      go_roundg (gk - 1)
                      case measure => omega
                      case rel =>
                        refine ⟨k + 1, by go_num, by omega, below_dn (unhide HZ) _, fun m y hm hy => ?_⟩
                        by_cases e : m = k
                        · subst e; rw [unhide HY2] at hy; cases hy; exact unhide HE
                        · exact (unhide HPK) m y (by omega) hy
                  · have hkz : ¬ (k : Int) < (L.length : Int) := by omega
                    clear hR
                    go_wp2
                    go_roundg (7 - (i + 1))
                    case measure => omega
                    case rel =>
                      refine ⟨i + 1, by go_num, by omega, unhide HZ, fun j L' hj hL' => ?_⟩
                      by_cases e : j = i
                      · subst e
                        rw [unhide HL] at hL'; cases hL'
                        intro hin
                        obtain ⟨m, hm⟩ := List.mem_iff_getElem?.1 hin
                        exact (unhide HPK) m t (by have := (List.getElem?_eq_some_iff.1 hm).1; omega) hm rfl
                      · exact (unhide HP) j L' (by omega) hL'
              · have hiz : ¬ (i : Int) < 7 := by omega
                go_wp2
                go_ret2
                have e1 := ofP_none t (fun j L hL => (unhide HP) j L (by have := (List.getElem?_eq_some_iff.1 hL).1; rw [labs_len] at this; omega) hL)
                exact ⟨by simp [ofE, ofF, e1], (unhide HWR).trans (((unhide HB5).trans ((unhide HY).mono (unhide HB5).size)).mono (unhide HWR).size)⟩
  · have HA := hide hA
    clear hA
    go_enter Tryd.func9, Tryd.ntmps9
    go_wp2
    go_loopg [0] s.size (fun g s0 wx => ∃ x : ByteArray, s0 = .string x ∧ x.size = g ∧ Lib.trimLeftS s.data.toList cs = Lib.trimLeftS x.data.toList cs ∧ x.size ≤ s.size ∧ w = wx)
    case atStart => exact ⟨s, rfl, rfl, rfl, Nat.le_refl _, rfl⟩
    case round =>
      obtain ⟨x, rfl, rfl, hxx, hle, rfl⟩ := hrel
      have hlz : (x.size : Int) ≤ 9223372036854775807 := by omega
      have h0 : 0 < x.size := by
        rcases Nat.eq_zero_or_pos x.size with h | h
        · exact absurd (hxx.trans (by rw [List.length_eq_zero_iff.1 ((len_data x).trans h)]; rfl)) (unhide HA)
        · exact h
      have h0z : (0 : Int) < (x.size : Int) := by omega
      obtain ⟨c, hc⟩ : ∃ c : UInt8, x[0]'h0 = c := ⟨_, rfl⟩
      cases hb : cs.contains c with
      | true =>
        have HBL := hide (fun w => blank_any c w)
        rw [hb] at HBL
        have HXX := hide (hxx.trans (left_yes x h0 (by rw [hc]; exact hb)))
        clear hb hxx
        go_wp2_with (go_at_call 18; refine ((unhide HBL) _).mono ?_; rintro e w' ⟨rfl, rfl⟩)
        go_roundg (x.size - 1)
        case measure => omega
        case rel => exact ⟨x.extract 1 x.size, rfl, by rw [ByteArray.size_extract]; omega, unhide HXX, by rw [ByteArray.size_extract]; omega, rfl⟩
      | false =>
        have HBL := hide (fun w => blank_any c w)
        rw [hb] at HBL
        have HXX := hide (hxx.trans (left_no x h0 (by rw [hc]; exact hb)))
        clear hxx
        go_wp2_with (go_at_call 18; refine ((unhide HBL) _).mono ?_; rintro e w' ⟨rfl, rfl⟩)
        have HFC : Hid (∃ h : 0 < x.size, cs.contains (x[0]'h) = false) := hide ⟨h0, by rw [hc]; exact hb⟩
        obtain ⟨y, hy⟩ : ∃ y : ByteArray, y = x := ⟨_, rfl⟩
        rw [← hy] at HXX HFC
        clear hb hc
        go_loopg [0] x.size (fun g s0 wx => ∃ x : ByteArray, s0 = .string x ∧ x.size = g ∧ Lib.trimRightS y.data.toList cs = Lib.trimRightS x.data.toList cs ∧ x.size ≤ s.size ∧ (∃ h : 0 < x.size, cs.contains (x[0]'h) = false) ∧ w = wx)
        case atStart => exact ⟨x, rfl, rfl, by rw [hy], hle, by rw [← hy]; exact unhide HFC, rfl⟩
        case round =>
          clear h0 h0z hle hlz hy HFC
          obtain ⟨z, rfl, rfl, hxx, hle, ⟨h0, hf0⟩, rfl⟩ := hrel
          have hlz : (z.size : Int) ≤ 9223372036854775807 := by omega
          have h0z : (0 : Int) < (z.size : Int) := by omega
          have h1 : z.size - 1 < z.size := by omega
          have h1z : 0 ≤ (z.size : Int) - 1 := by omega
          have h2z : (z.size : Int) - 1 < (z.size : Int) := by omega
          have h3z : ((z.size : Int) - 1).toNat = z.size - 1 := by omega
          obtain ⟨c, hc⟩ : ∃ c : UInt8, z[z.size - 1]'h1 = c := ⟨_, rfl⟩
          cases hb : cs.contains c with
          | true =>
            have HBL := hide (fun w => blank_any c w)
            rw [hb] at HBL
            have HXX := hide (hxx.trans (right_yes z h1 (by rw [hc]; exact hb)))
            clear hxx
            have hne : 0 < z.size - 1 := by
              rcases Nat.eq_zero_or_pos (z.size - 1) with h | h
              · have : z[z.size - 1]'h1 = z[0]'h0 := by congr 1
                rw [hc] at this; rw [this, hf0] at hb; cases hb
              · exact h
            have HF : Hid (∃ h : 0 < (z.extract 0 (z.size - 1)).size, cs.contains ((z.extract 0 (z.size - 1))[0]'h) = false) := hide ⟨by rw [ByteArray.size_extract]; omega, by
              rw [ByteArray.getElem_extract]; simpa using hf0⟩
            clear hb hf0
            go_wp2_with (go_at_call 18; refine ((unhide HBL) _).mono ?_; rintro e w' ⟨rfl, rfl⟩)
            go_roundg (z.size - 1)
            case measure => omega
            case rel => exact ⟨z.extract 0 (z.size - 1), rfl, by rw [ByteArray.size_extract]; omega, unhide HXX, by rw [ByteArray.size_extract]; omega, unhide HF, rfl⟩
          | false =>
            have HBL := hide (fun w => blank_any c w)
            rw [hb] at HBL
            have HXZ := hide (hxx.trans (right_no z h1 (by rw [hc]; exact hb)))
            have HT : Hid (z.data.toList.map low = t) := hide (by rw [unhide HTT, ← unhide HTC, unhide HXX, unhide HXZ])
            clear hxx hb hf0 HXX HXZ HA HTC HTT
            have hcv := fun W => run_bytes_of_string (P := Tryd.prog) W 9 35 5 z Tryd.underlying9 Tryd.underlying35 Tryd.underlying5
            have hn := len_data z
            have HN := hide hn
            clear hn
            have HLS : Hid (LowAt w (w.drew.alloc (.cells (bytesRow z (grownCap w z.size 0 5)) 5 ((bytesRow z (grownCap w z.size 0 5)).size, (bytesRow z (grownCap w z.size 0 5)).size + 1))) z.data.toList 0) := hide (low_start w z _ (grownCap_ge w z.size 0 5))
            go_wp2_with (go_at_call 18; refine ((unhide HBL) _).mono ?_; rintro e w' ⟨rfl, rfl⟩)
            go_loopg [5] z.size (fun k sl wx => ∃ j : Nat, sl = .int .i64 j ∧ j + k = z.size ∧ LowAt w wx z.data.toList j)
            case atStart => exact ⟨0, rfl, by omega, unhide HLS⟩
            case round =>
              clear HLS
              obtain ⟨j, rfl, hjk, hlo⟩ := hrel
              by_cases hj : j < z.size
              · have hjz : (j : Int) < (z.size : Int) := by omega
                have hx : z.data.toList[j]? = some z.data.toList[j] := List.getElem?_eq_getElem (by rw [unhide HN]; exact hj)
                generalize z.data.toList[j] = c at hx
                have d0 := hlo.cells j c hx
                rw [if_neg (Nat.lt_irrefl _)] at d0
                have f0 := hlo.free j (by rw [unhide HN]; exact hj)
                have HLO := hide hlo
                have HX := hide hx
                clear hlo hx
                by_cases h2 : (65 : Int) ≤ (c.toNat : Int)
                · by_cases h3 : (c.toNat : Int) ≤ 90
                  · have HLC := hide (low_cap c (by omega) (by omega))
                    go_wp2
                    go_roundg (gk - 1)
                    case measure => omega
                    case rel => exact ⟨j + 1, by go_num, by omega, (unhide HLO).put (unhide HX) (by rw [unhide HLC]) ⟨_, d0⟩⟩
                  · have HLC := hide (low_other c (by omega))
                    go_wp2
                    go_roundg (gk - 1)
                    case measure => omega
                    case rel => exact ⟨j + 1, by go_num, by omega, (unhide HLO).same (unhide HX) (unhide HLC)⟩
                · have HLC := hide (low_other c (by omega))
                  go_wp2
                  go_roundg (gk - 1)
                  case measure => omega
                  case rel => exact ⟨j + 1, by go_num, by omega, (unhide HLO).same (unhide HX) (unhide HLC)⟩
              · have hjz : ¬ (j : Int) < (z.size : Int) := by omega
                obtain rfl : j = z.size := by omega
                have HLO := hide hlo
                clear hlo
                have HBK : Hid (∀ W, Below wr.heap.size wr W → (convert 35 9 (.slice (some ⟨w.heap.size, 0, none⟩) z.size (grownCap w z.size 0 5))).run Tryd.prog W = .ok (.string ⟨t.toArray⟩) W) := hide (fun W hW => by
                  have := low_back w W z (grownCap w z.size 0 5) (fun k c hc => by
                    have := (unhide HLO).keep hW k c hc
                    rw [if_pos (by have := (List.getElem?_eq_some_iff.1 hc).1; rwa [len_data] at this)] at this
                    exact this)
                  rw [unhide HT] at this
                  exact this)
                have HWR := hide (unhide HLO).below
                clear HLO
                go_wp2_with (go_at_call 19; refine (labels_any _).mono ?_; rintro e w5 ⟨rfl, hr5, hb5⟩; have HR5 := hide hr5; have HB5 := hide hb5; clear hr5 hb5)
                go_loopg [7, 8] 7 (fun g s7 _ wy => ∃ i : Nat, s7 = .int .i64 i ∧ i + g = 7 ∧ Below w5.heap.size w5 wy ∧ (∀ (j : Nat) L, j < i → labs[j]? = some L → ¬ t ∈ L))
                case atStart => exact ⟨0, rfl, rfl, Below.refl _ _, fun j L h => by omega⟩
                case round =>
                  obtain ⟨i, rfl, hig, hby, hpre⟩ := hrel
                  have HP := hide hpre
                  have HY := hide hby
                  clear hpre hby
                  by_cases hi : i < 7
                  · have hiz : (i : Int) < 7 := by omega
                    obtain ⟨L, hL⟩ : ∃ L, labs[i]? = some L := ⟨_, List.getElem?_eq_getElem (by rw [labs_len]; exact hi)⟩
                    have hl12 : (L.length : Int) ≤ 12 := by have := of_decide_eq_true (List.all_eq_true.1 labs_most L (List.mem_of_getElem? hL)); omega
                    have HL := hide hL
                    clear hL
                    go_wp2
                    go_loopg [8] L.length (fun g s8 wz => ∃ k : Nat, s8 = .int .i64 k ∧ k + g = L.length ∧ Below w5.heap.size w5 wz ∧ (∀ (m : Nat) y, m < k → L[m]? = some y → y ≠ t))
                    case atStart => exact ⟨0, rfl, by omega, unhide HY, fun m y h => by omega⟩
                    case round =>
                      obtain ⟨k, rfl, hkg, hbz, hpk⟩ := hrel
                      have hR := (unhide HR5).below hbz
                      have q1 := hR.at_ i L (unhide HL)
                      have HPK := hide hpk
                      have HZ := hide hbz
                      have hbk := fun n => (unhide HBK) (wr.drewN n) (below_dn ((unhide HB5).trans (hbz.mono (unhide HB5).size)) n)
                      clear hpk hbz
                      by_cases hk : k < L.length
                      · have hkz : (k : Int) < (L.length : Int) := by omega
                        obtain ⟨y2, hy2⟩ : ∃ y, L[k]? = some y := ⟨_, List.getElem?_eq_getElem hk⟩
                        have q2 := hR.str i L k y2 (unhide HL) hy2
                        have HY2 := hide hy2
                        clear hR hy2
                        by_cases he : y2 = t
                        · subst he
                          go_wp2
                          go_quiet (fail)
                          go_wp2
                          go_ret2
                          have e1 := ofP_some y2 i L (unhide HL) (List.mem_of_getElem? (unhide HY2)) (unhide HP)
                          refine ⟨by simp [ofE, ofF, e1], ?_⟩
                          exact (unhide HWR).trans (((unhide HB5).trans (below_dn (unhide HZ) _ |>.mono (unhide HB5).size)).mono (unhide HWR).size)
                        · have hne : (y2 == t) = false := by simpa using he
                          have HE := hide he
                          clear he
                          go_wp2
                          go_quiet (fail)
                          go_wp2
                          go_roundg (gk - 1)
                          case measure => omega
                          case rel =>
                            refine ⟨k + 1, by go_num, by omega, below_dn (unhide HZ) _, fun m y hm hy => ?_⟩
                            by_cases e : m = k
                            · subst e; rw [unhide HY2] at hy; cases hy; exact unhide HE
                            · exact (unhide HPK) m y (by omega) hy
                      · have hkz : ¬ (k : Int) < (L.length : Int) := by omega
                        clear hR
                        go_wp2
                        go_roundg (7 - (i + 1))
                        case measure => omega
                        case rel =>
                          refine ⟨i + 1, by go_num, by omega, unhide HZ, fun j L' hj hL' => ?_⟩
                          by_cases e : j = i
                          · subst e
                            rw [unhide HL] at hL'; cases hL'
                            intro hin
                            obtain ⟨m, hm⟩ := List.mem_iff_getElem?.1 hin
                            exact (unhide HPK) m t (by have := (List.getElem?_eq_some_iff.1 hm).1; omega) hm rfl
                          · exact (unhide HP) j L' (by omega) hL'
                  · have hiz : ¬ (i : Int) < 7 := by omega
                    go_wp2
                    go_ret2
                    have e1 := ofP_none t (fun j L hL => (unhide HP) j L (by have := (List.getElem?_eq_some_iff.1 hL).1; rw [labs_len] at this; omega) hL)
                    exact ⟨by simp [ofE, ofF, e1], (unhide HWR).trans (((unhide HB5).trans ((unhide HY).mono (unhide HB5).size)).mono (unhide HWR).size)⟩
end Go.Proofs.YtdacaedjcfmpdaaDoor
