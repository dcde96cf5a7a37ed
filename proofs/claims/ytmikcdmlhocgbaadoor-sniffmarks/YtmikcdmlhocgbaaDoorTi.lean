/-
  The document's Mark; the walk of SniffMarks.
-/
import Derived.Test.YtmikcdmlhocgbaaDoorTh
namespace Go.Proofs.YtmikcdmlhocgbaaDoor
open Go.RowKit Go.Lib

def RefMark (w : World) (v : Value) (r : Int × Int × Int) : Prop := Calls Tryd.prog 11 #[v] w fun e w' => e = .returned (.tuple #[.int .i64 r.1, .int .i64 r.2.1, .int .i64 r.2.2]) ∧ ∃ n, w' = w.drewN n
theorem rm_short (w : World) (a : Option Addr) (n cap : Nat) (h2 : ¬ (2 : Int) ≤ (n : Int)) (h3 : ¬ (3 : Int) ≤ (n : Int)) : RefMark w (.slice a n cap) (0, 0, 6) := by
  unfold RefMark
  go_enter Tryd.func11, Tryd.ntmps11
  go_wp2
  go_ret3
  exact ⟨rfl, 0, rfl⟩
theorem rm2_be (w : World) (b off n cap : Nat) (h2 : (2 : Int) ≤ (n : Int)) (h3 : ¬ (3 : Int) ≤ (n : Int)) (c0 : w.cell? ⟨b, off, none⟩ = some (.int .u8 254)) (c1 : w.cell? ⟨b, off + 1, none⟩ = some (.int .u8 255)) : RefMark w (.slice (some ⟨b, off, none⟩) n cap) (2, 2, 0) := by
  unfold RefMark
  go_enter Tryd.func11, Tryd.ntmps11
  go_wp2
  go_ret3
  exact ⟨rfl, 0, rfl⟩
theorem rm2_le (w : World) (b off n cap : Nat) (h2 : (2 : Int) ≤ (n : Int)) (h3 : ¬ (3 : Int) ≤ (n : Int)) (c0 : w.cell? ⟨b, off, none⟩ = some (.int .u8 255)) (c1 : w.cell? ⟨b, off + 1, none⟩ = some (.int .u8 254)) : RefMark w (.slice (some ⟨b, off, none⟩) n cap) (1, 2, 0) := by
  unfold RefMark
  go_enter Tryd.func11, Tryd.ntmps11
  go_wp2
  go_ret3
  exact ⟨rfl, 0, rfl⟩
theorem rm2_ben (w : World) (b off n cap : Nat) (h2 : (2 : Int) ≤ (n : Int)) (h3 : ¬ (3 : Int) ≤ (n : Int)) (y : Int) (c0 : w.cell? ⟨b, off, none⟩ = some (.int .u8 254)) (c1 : w.cell? ⟨b, off + 1, none⟩ = some (.int .u8 y)) (hy : (y == 255) = false) : RefMark w (.slice (some ⟨b, off, none⟩) n cap) (0, 0, 6) := by
  unfold RefMark
  go_enter Tryd.func11, Tryd.ntmps11
  go_wp2
  go_ret3
  exact ⟨rfl, 0, rfl⟩
theorem rm2_len (w : World) (b off n cap : Nat) (h2 : (2 : Int) ≤ (n : Int)) (h3 : ¬ (3 : Int) ≤ (n : Int)) (y : Int) (c0 : w.cell? ⟨b, off, none⟩ = some (.int .u8 255)) (c1 : w.cell? ⟨b, off + 1, none⟩ = some (.int .u8 y)) (hy : (y == 254) = false) : RefMark w (.slice (some ⟨b, off, none⟩) n cap) (0, 0, 6) := by
  unfold RefMark
  go_enter Tryd.func11, Tryd.ntmps11
  go_wp2
  go_ret3
  exact ⟨rfl, 0, rfl⟩
theorem rm2_no (w : World) (b off n cap : Nat) (h2 : (2 : Int) ≤ (n : Int)) (h3 : ¬ (3 : Int) ≤ (n : Int)) (x : Int) (c0 : w.cell? ⟨b, off, none⟩ = some (.int .u8 x)) (hx : (x == 254) = false) (hx2 : (x == 255) = false) : RefMark w (.slice (some ⟨b, off, none⟩) n cap) (0, 0, 6) := by
  unfold RefMark
  go_enter Tryd.func11, Tryd.ntmps11
  go_wp2
  go_ret3
  exact ⟨rfl, 0, rfl⟩
theorem rm3_be (w : World) (b off n cap : Nat) (h2 : (2 : Int) ≤ (n : Int)) (h3 : (3 : Int) ≤ (n : Int)) (c0 : w.cell? ⟨b, off, none⟩ = some (.int .u8 254)) (c1 : w.cell? ⟨b, off + 1, none⟩ = some (.int .u8 255)) : RefMark w (.slice (some ⟨b, off, none⟩) n cap) (2, 2, 0) := by
  unfold RefMark
  go_enter Tryd.func11, Tryd.ntmps11
  go_wp2
  go_ret3
  exact ⟨rfl, 0, rfl⟩
theorem rm3_le (w : World) (b off n cap : Nat) (h2 : (2 : Int) ≤ (n : Int)) (h3 : (3 : Int) ≤ (n : Int)) (c0 : w.cell? ⟨b, off, none⟩ = some (.int .u8 255)) (c1 : w.cell? ⟨b, off + 1, none⟩ = some (.int .u8 254)) : RefMark w (.slice (some ⟨b, off, none⟩) n cap) (1, 2, 0) := by
  unfold RefMark
  go_enter Tryd.func11, Tryd.ntmps11
  go_wp2
  go_ret3
  exact ⟨rfl, 0, rfl⟩
theorem rm3_ben (w : World) (b off n cap : Nat) (h2 : (2 : Int) ≤ (n : Int)) (h3 : (3 : Int) ≤ (n : Int)) (y : Int) (c0 : w.cell? ⟨b, off, none⟩ = some (.int .u8 254)) (c1 : w.cell? ⟨b, off + 1, none⟩ = some (.int .u8 y)) (hy : (y == 255) = false) : RefMark w (.slice (some ⟨b, off, none⟩) n cap) (0, 0, 6) := by
  unfold RefMark
  go_enter Tryd.func11, Tryd.ntmps11
  go_wp2
  go_ret3
  exact ⟨rfl, 0, rfl⟩
theorem rm3_len (w : World) (b off n cap : Nat) (h2 : (2 : Int) ≤ (n : Int)) (h3 : (3 : Int) ≤ (n : Int)) (y : Int) (c0 : w.cell? ⟨b, off, none⟩ = some (.int .u8 255)) (c1 : w.cell? ⟨b, off + 1, none⟩ = some (.int .u8 y)) (hy : (y == 254) = false) : RefMark w (.slice (some ⟨b, off, none⟩) n cap) (0, 0, 6) := by
  unfold RefMark
  go_enter Tryd.func11, Tryd.ntmps11
  go_wp2
  go_ret3
  exact ⟨rfl, 0, rfl⟩
theorem rm3_no (w : World) (b off n cap : Nat) (h2 : (2 : Int) ≤ (n : Int)) (h3 : (3 : Int) ≤ (n : Int)) (x : Int) (c0 : w.cell? ⟨b, off, none⟩ = some (.int .u8 x)) (hx : (x == 254) = false) (hx2 : (x == 255) = false) (hx3 : (x == 239) = false) : RefMark w (.slice (some ⟨b, off, none⟩) n cap) (0, 0, 6) := by
  unfold RefMark
  go_enter Tryd.func11, Tryd.ntmps11
  go_wp2
  go_ret3
  exact ⟨rfl, 0, rfl⟩
theorem rm3_u (w : World) (b off n cap : Nat) (h3 : (3 : Int) ≤ (n : Int)) (c0 : w.cell? ⟨b, off, none⟩ = some (.int .u8 239)) (c1 : w.cell? ⟨b, off + 1, none⟩ = some (.int .u8 187)) (c2 : w.cell? ⟨b, off + 2, none⟩ = some (.int .u8 191)) : RefMark w (.slice (some ⟨b, off, none⟩) n cap) (0, 3, 0) := by
  unfold RefMark
  go_enter Tryd.func11, Tryd.ntmps11
  go_wp2
  go_ret3
  exact ⟨rfl, 0, rfl⟩
theorem rm3_un (w : World) (b off n cap : Nat) (h2 : (2 : Int) ≤ (n : Int)) (h3 : (3 : Int) ≤ (n : Int)) (z : Int) (c0 : w.cell? ⟨b, off, none⟩ = some (.int .u8 239)) (c1 : w.cell? ⟨b, off + 1, none⟩ = some (.int .u8 187)) (c2 : w.cell? ⟨b, off + 2, none⟩ = some (.int .u8 z)) (hz : (z == 191) = false) : RefMark w (.slice (some ⟨b, off, none⟩) n cap) (0, 0, 6) := by
  unfold RefMark
  go_enter Tryd.func11, Tryd.ntmps11
  go_wp2
  go_ret3
  exact ⟨rfl, 0, rfl⟩
theorem rm3_um (w : World) (b off n cap : Nat) (h2 : (2 : Int) ≤ (n : Int)) (h3 : (3 : Int) ≤ (n : Int)) (y : Int) (c0 : w.cell? ⟨b, off, none⟩ = some (.int .u8 239)) (c1 : w.cell? ⟨b, off + 1, none⟩ = some (.int .u8 y)) (hy : (y == 187) = false) : RefMark w (.slice (some ⟨b, off, none⟩) n cap) (0, 0, 6) := by
  unfold RefMark
  go_enter Tryd.func11, Tryd.ntmps11
  go_wp2
  go_ret3
  exact ⟨rfl, 0, rfl⟩
theorem rm2_u (w : World) (b off n cap : Nat) (h2 : (2 : Int) ≤ (n : Int)) (h3 : ¬ (3 : Int) ≤ (n : Int)) (c0 : w.cell? ⟨b, off, none⟩ = some (.int .u8 239)) : RefMark w (.slice (some ⟨b, off, none⟩) n cap) (0, 0, 6) := by
  unfold RefMark
  go_enter Tryd.func11, Tryd.ntmps11
  go_wp2
  go_ret3
  exact ⟨rfl, 0, rfl⟩

theorem refMark_any (w : World) (a : Option Addr) (cap : Nat) (l : List UInt8) (hb : BytesIn w a l) : RefMark w (.slice a l.length cap) (markM l) := by
  match l, hb with
  | [], _ => exact rm_short w a 0 cap (by decide) (by decide)
  | [x0], _ =>
    have e : markM [x0] = (0, 0, 6) := by unfold markM; simp
    rw [e]
    exact rm_short w a 1 cap (by decide) (by decide)
  | [x0, x1], hb =>
    obtain ⟨b, off, rfl, c0⟩ := hb.cells 0 x0 rfl
    obtain ⟨b', off', e', c1⟩ := hb.cells 1 x1 rfl
    cases e'
    by_cases h254 : x0 = 254
    · subst h254
      by_cases h255 : x1 = 255
      · subst h255
        exact rm2_be w b off 2 cap (by decide) (by decide) c0 c1
      · have e : markM [254, x1] = (0, 0, 6) := by unfold markM; simp [h255]
        rw [e]
        exact rm2_ben w b off 2 cap (by decide) (by decide) _ c0 c1 (byte_ne x1 255 h255)
    · by_cases h255 : x0 = 255
      · subst h255
        by_cases h1 : x1 = 254
        · subst h1
          exact rm2_le w b off 2 cap (by decide) (by decide) c0 c1
        · have e : markM [255, x1] = (0, 0, 6) := by unfold markM; simp [h1]
          rw [e]
          exact rm2_len w b off 2 cap (by decide) (by decide) _ c0 c1 (byte_ne x1 254 h1)
      · have e : markM [x0, x1] = (0, 0, 6) := by unfold markM; simp [h254, h255]
        rw [e]
        by_cases h239 : x0 = 239
        · subst h239
          exact rm2_u w b off 2 cap (by decide) (by decide) c0
        · exact rm2_no w b off 2 cap (by decide) (by decide) _ c0 (byte_ne x0 254 h254) (byte_ne x0 255 h255)
  | x0 :: x1 :: x2 :: r, hb =>
    obtain ⟨b, off, rfl, c0⟩ := hb.cells 0 x0 rfl
    obtain ⟨b', off', e', c1⟩ := hb.cells 1 x1 rfl
    cases e'
    obtain ⟨b', off', e', c2⟩ := hb.cells 2 x2 rfl
    cases e'
    have hn2 : (2 : Int) ≤ ((x0 :: x1 :: x2 :: r).length : Int) := by simp only [List.length_cons]; omega
    have hn3 : (3 : Int) ≤ ((x0 :: x1 :: x2 :: r).length : Int) := by simp only [List.length_cons]; omega
    by_cases h254 : x0 = 254
    · subst h254
      by_cases h255 : x1 = 255
      · subst h255
        exact rm3_be w b off _ cap hn2 hn3 c0 c1
      · have e : markM (254 :: x1 :: x2 :: r) = (0, 0, 6) := by unfold markM; simp [h255]
        rw [e]
        exact rm3_ben w b off _ cap hn2 hn3 _ c0 c1 (byte_ne x1 255 h255)
    · by_cases h255 : x0 = 255
      · subst h255
        by_cases h1 : x1 = 254
        · subst h1
          exact rm3_le w b off _ cap hn2 hn3 c0 c1
        · have e : markM (255 :: x1 :: x2 :: r) = (0, 0, 6) := by unfold markM; simp [h1]
          rw [e]
          exact rm3_len w b off _ cap hn2 hn3 _ c0 c1 (byte_ne x1 254 h1)
      · by_cases h239 : x0 = 239
        · subst h239
          by_cases h187 : x1 = 187
          · subst h187
            by_cases h191 : x2 = 191
            · subst h191
              exact rm3_u w b off _ cap hn3 c0 c1 c2
            · have e : markM (239 :: 187 :: x2 :: r) = (0, 0, 6) := by unfold markM; simp [h191]
              rw [e]
              exact rm3_un w b off _ cap hn2 hn3 _ c0 c1 c2 (byte_ne x2 191 h191)
          · have e : markM (239 :: x1 :: x2 :: r) = (0, 0, 6) := by unfold markM; simp [h187]
            rw [e]
            exact rm3_um w b off _ cap hn2 hn3 _ c0 c1 (byte_ne x1 187 h187)
        · have e : markM (x0 :: x1 :: x2 :: r) = (0, 0, 6) := by unfold markM; simp [h254, h255, h239]
          rw [e]
          exact rm3_no w b off _ cap hn2 hn3 _ c0 (byte_ne x0 254 h254) (byte_ne x0 255 h255) (byte_ne x0 239 h239)

set_option maxHeartbeats 1000000 in
theorem sniffMarks_walk (a : Option Addr) (cap : Nat) (l : List UInt8) (w : World) (hb : BytesIn w a l) (hm : l.length ≤ 140737488351232) :
    Calls Tryd.prog 3 #[.slice a l.length cap] w fun e w' => e = .returned (.bool true) ∧ Below w.heap.size w w' := by
  have HBY := hide hb
  have HM := hide hm
  clear hb hm
  have hblk : (w.alloc (.cells #[] 5)).heap[w.heap.size]? = some (.cells #[] 5 (0, 0)) := heap_alloc_new w _
  have HB1 := hide ((Below.refl w.heap.size w).alloc (Nat.le_refl _) (.cells #[] 5))
  obtain ⟨i0, hi, hz0, hz1, hz2⟩ := info_parts info5
  have HNEWS : Hid (∀ b off, a = some ⟨b, off, none⟩ → ∀ j u, (bytesV l)[j]? = some u → (w.alloc (.cells #[] 5)).cell? ((⟨b, off, none⟩ : Addr).add j) = some u) := hide (news_of ((unhide HBY).below (unhide HB1)))
  have HSRC : Hid (0 < l.length → ∃ b off, a = some ⟨b, off, none⟩) := hide (fun h0 => by obtain ⟨b, off, e, _⟩ := (unhide HBY).cells 0 _ (List.getElem?_eq_getElem h0); exact ⟨b, off, e⟩)
  have HMK := hide (fun g cp w1 (h : Wr w w1 g cp l) => mark_any w1 g cp l h.bytes h.room)
  have HRM := hide (fun w1 (h : Below w.heap.size w w1) => refMark_any w1 a cap l ((unhide HBY).below h))
  unfold RefMark at HRM
  generalize (markM l).1 = q1 at HMK HRM
  generalize (markM l).2.1 = q2 at HMK HRM
  generalize (markM l).2.2 = q3 at HMK HRM
  go_enter Tryd.func3, Tryd.ntmps3
  go_wp2_with (first
    | (at_builtin; go_must (refine cp_append (by rfl) _ _ 22 (by rfl) 5 i0 _ 1 1 Tryd.underlying22 hi hz0 hz1 hz2 rfl (by omega) w.heap.size (by rfl) (by exact hblk) a l.length cap (bytesV l) (by rfl) (by simp [bytesV]) (unhide HNEWS) (unhide HSRC) (bytes_one l) (by have := unhide HM; unfold maxLen; omega) (by have := unhide HM; omega) ?_); intro g cp w1 ho hgr hgk hgl; have hwr := wr_of ho (unhide HB1) (Nat.le_refl _) hgr; have HM1 := hide ((unhide HMK) g cp w1 hwr); have HBW := hide hwr.below; clear ho hgr hgk hgl hwr)
    | (go_at_call 10; refine (unhide HM1).mono ?_; rintro e w2 ⟨rfl, hb2⟩; have HB2 := hide ((unhide HBW).trans (hb2.mono (unhide HBW).size)); have HR2 := hide ((unhide HRM) w2 (unhide HB2)); clear hb2)
    | (go_at_call 11; refine (unhide HR2).mono ?_; rintro e w3 ⟨rfl, m3, rfl⟩)
    | (go_at_call 12; refine (awake_any _).mono ?_; rintro e w4 ⟨rfl, hb4⟩; have HB4 := hide ((below_dn (unhide HB2) m3).trans (hb4.mono (below_dn (unhide HB2) m3).size)); clear hb4))
  go_ret
  exact ⟨rfl, unhide HB4⟩
end Go.Proofs.YtmikcdmlhocgbaaDoor
