/-
  The walk of SniffBound.
-/
import Derived.Test.YtmikcdmlhocgbaaDoorTj
namespace Go.Proofs.YtmikcdmlhocgbaaDoor
open Go.RowKit Go.Lib

theorem mark_more {F more : List UInt8} (h : 1024 ≤ F.length) : markM (F ++ more) = markM F := by
  unfold markM
  rw [List.take_append_of_le_length (by omega), List.take_append_of_le_length (by omega)]
theorem prescan_more {F more : List UInt8} (h : F.length = 1024) : prescanM (F ++ more) = prescanM F := by
  unfold prescanM
  rw [List.take_append_of_le_length (by omega)]
theorem own_bytes {w : World} {k g cap : Nat} {l : List UInt8} (ho : w.ownsRow k 5 1 (.slice (some ⟨g, 0, none⟩) l.length cap) l.length (bytesV l)) : BytesIn w (some ⟨g, 0, none⟩) l ∧ l.length ≤ cap ∧ k ≤ g ∧ g < w.heap.size := by
  rcases ho.2 with ⟨h', _⟩ | ⟨g1, cap1, cur, h', hkg, hb1, hle, _, hcs, htk⟩
  · simp at h'
  · simp at h'
    obtain ⟨rfl, rfl⟩ := h'
    refine ⟨⟨fun j c hj => ⟨g, 0, rfl, ?_⟩⟩, hle, hkg, lt_of_block hb1⟩
    have hlt := (List.getElem?_eq_some_iff.1 hj).1
    have h1 : (bytesV l)[j]? = some (.int .u8 (c.toNat : Int)) := by unfold bytesV; rw [List.getElem?_map, hj]; rfl
    rw [← htk, Nat.mul_one, List.getElem?_take, if_pos hlt] at h1
    rw [Nat.zero_add, cell_of_row _ g j _ _ _ hb1]
    simpa using h1
theorem bytesV_app (x y : List UInt8) : bytesV (x ++ y) = bytesV x ++ bytesV y := by simp [bytesV]

structure FullI (w wx : World) (v : Value) (F : List UInt8) : Prop where
  own : ∃ g c, v = .slice (some ⟨g, 0, none⟩) F.length c ∧ wx.ownsRow w.heap.size 5 1 v F.length (bytesV F)
  below : Below w.heap.size w wx

set_option maxRecDepth 8000 in
set_option maxHeartbeats 2000000 in
theorem bound_no (a : Option Addr) (cap : Nat) (l : List UInt8) (hle : l.length ≤ 1024) (w : World) (hb : BytesIn w a l) (a2 : Option Addr) (cap2 : Nat) (more : List UInt8) (hb2 : BytesIn w a2 more) (hm2 : more.length ≤ 140737488351232) (s : ByteArray) (hs : s.size ≤ 9223372036854775807) :
    Calls Tryd.prog 7 #[.slice a l.length cap, .slice a2 more.length cap2, .string s] w fun e w' => e = .returned (.bool true) ∧ Below w.heap.size w w' := by
  have hgt : ¬ (1024 : Int) < (l.length : Int) := by omega
  have HBY := hide hb
  have HBY2 := hide hb2
  have HM2 := hide hm2
  have HSS := hide hs
  clear hb hb2 hm2 hs
  have hblk : (w.alloc (.cells #[] 5)).heap[w.heap.size]? = some (.cells #[] 5 (0, 0)) := heap_alloc_new w _
  have HB1 := hide ((Below.refl w.heap.size w).alloc (Nat.le_refl _) (.cells #[] 5))
  obtain ⟨i0, hi, hz0, hz1, hz2⟩ := info_parts info5
  have HNEWS : Hid (∀ b off, a = some ⟨b, off, none⟩ → ∀ j u, (bytesV l)[j]? = some u → (w.alloc (.cells #[] 5)).cell? ((⟨b, off, none⟩ : Addr).add j) = some u) := hide (news_of ((unhide HBY).below (unhide HB1)))
  have HSRC : Hid (0 < l.length → ∃ b off, a = some (⟨b, off, none⟩ : Addr)) := hide (fun h0 => by obtain ⟨b, off, e, _⟩ := (unhide HBY).cells 0 _ (List.getElem?_eq_getElem (l := l) (i := 0) (by exact h0)); exact ⟨b, off, e⟩)
  have HLE : Hid (l.length ≤ 1024) := hide (by exact hle)
  go_enter Tryd.func7, Tryd.ntmps7
  go_wp2_with (first
    | (at_builtin; go_must (refine cp_append (by rfl) _ _ 22 (by rfl) 5 i0 _ 1 1 Tryd.underlying22 hi hz0 hz1 hz2 rfl (by omega) w.heap.size (by rfl) (by exact hblk) a (l.length) cap (bytesV l) (by rfl) (by simp [bytesV]) (unhide HNEWS) (unhide HSRC) (bytes_one l) (by have := unhide HLE; unfold maxLen; omega) (by have := unhide HLE; omega) ?_); intro g cp w1 ho hgr hgk hgl; have HO1 := hide ho; have HBE1 := hide ((unhide HB1).grown hgr (unhide HB1).size (fun k hk => by have : w.heap.size = k := Option.some.inj hk; omega)); clear ho hgr hgk hgl))
  clear hblk HNEWS HSRC HBY hgt hle
  go_loopg [7] (1024 - l.length) (fun gx s7 wx => ∃ F : List UInt8, F.length + gx = 1024 ∧ FullI w wx s7 F)
  case atStart => exact ⟨l, by have := unhide HLE; omega, ⟨⟨g, cp, rfl, unhide HO1⟩, unhide HBE1⟩⟩
  case round =>
    obtain ⟨F, hFg, ⟨g1, c1, rfl, hown⟩, hbel⟩ := hrel
    have hob := own_bytes hown
    have HOB := hide hob
    have HBEL := hide hbel
    have HOWN := hide hown
    by_cases hF : F.length < 1024
    · have hFz : (F.length : Int) < 1024 := by omega
      have HF := hide (And.intro hF hFg)
      have hown1 : (wr.alloc (.cells #[.int .u8 32] 5)).ownsRow w.heap.size 5 1 (.slice (some ⟨g1, 0, none⟩) F.length c1) F.length (bytesV F) := hown.alloc _
      have HOWN1 := hide hown1
      have HSB : Hid (w.heap.size ≤ (wr.alloc (.cells #[.int .u8 32] 5)).heap.size) := hide (by have := hbel.size; simp; omega)
      have HSG : Hid (g1 < (wr.alloc (.cells #[.int .u8 32] 5)).heap.size) := hide (by have := hob.2.2.2; simp; omega)
      have HNW : Hid (∀ b off, (some ⟨wr.heap.size, 0, none⟩ : Option Addr) = some ⟨b, off, none⟩ → ∀ j u, ([.int .u8 32] : List Value)[j]? = some u → (wr.alloc (.cells #[.int .u8 32] 5)).cell? ((⟨b, off, none⟩ : Addr).add j) = some u) := hide (fun b off e => news_of (l := [32]) (bytes_new wr [32] (0, 0)) b off e)
      have HBA := hide ((unhide HBEL).alloc hbel.size (.cells #[.int .u8 32] 5))
      clear hown hown1 hob hbel hF hFg
      generalize hnF : F.length = nF at *
      go_wp2_with (at_builtin; go_must (refine ap_append (by rfl) _ _ 22 (by rfl) w.heap.size 5 i0 _ 1 1 Tryd.underlying22 hi hz0 hz1 hz2 rfl (by omega) g1 nF c1 (bytesV F) (by rfl) (unhide HOWN1) (unhide HSB) (unhide HSG) (some ⟨wr.heap.size, 0, none⟩) 1 1 [.int .u8 32] (by rfl) (by rfl) (unhide HNW) (fun _ => ⟨_, _, rfl⟩) (by intro u hu; simp at hu; subst hu; rfl) (by have := unhide HF; unfold maxLen; omega) (by have := unhide HF; omega) ?_); intro g2 c2 w2 ho2 hgr2 hgl2; have HO2 := hide ho2; have HBE2 := hide ((unhide HBA).grown hgr2 (unhide HBA).size (fun k hk => by have : g1 = k := Option.some.inj hk; have := (unhide HOB).2.2.1; omega)); clear ho2 hgr2 hgl2)
      go_roundg (gk - 1)
      case measure => have := unhide HF; omega
      case rel => exact ⟨F ++ [32], by have := unhide HF; simp; omega, ⟨⟨g2, c2, by simp [hnF], by rw [bytesV_app]; simp only [List.length_append, List.length_singleton, hnF]; exact unhide HO2⟩, unhide HBE2⟩⟩
    · have hFz : ¬ (F.length : Int) < 1024 := by omega
      have hF4 : F.length = 1024 := by omega
      have hblk2 : (wr.alloc (.cells #[] 5)).heap[wr.heap.size]? = some (.cells #[] 5 (0, 0)) := heap_alloc_new wr _
      have HB2 := hide ((Below.refl wr.heap.size wr).alloc (Nat.le_refl _) (.cells #[] 5))
      have HNW2 : Hid (∀ b off, (some ⟨g1, 0, none⟩ : Option Addr) = some ⟨b, off, none⟩ → ∀ j u, (bytesV F)[j]? = some u → (wr.alloc (.cells #[] 5)).cell? ((⟨b, off, none⟩ : Addr).add j) = some u) := hide (news_of (hob.1.alloc _))
      have HF4 := hide hF4
      obtain ⟨nM, hnM⟩ : ∃ nM, more.length = nM := ⟨_, rfl⟩
      have HNM := hide hnM
      have HRES := hide (fun (W : World) (gm cm : Nat) (end_ : Bool) (h1 : BytesIn W (some ⟨gm, 0, none⟩) (F ++ more)) (h2 : (F ++ more).length ≤ cm) => choose_any W gm cm (F ++ more) end_ s h1 h2 (by rw [List.length_append]; omega) (unhide HSS))
      have HRES1 := hide (fun (W : World) (end_ : Bool) (h1 : BytesIn W (some ⟨g1, 0, none⟩) F) => choose_any W g1 c1 F end_ s h1 hob.2.1 (by omega) (unhide HSS))
      have HPRE := hide (fun (W : World) (gm cm : Nat) (h1 : BytesIn W (some ⟨gm, 0, none⟩) (F ++ more)) (h2 : (F ++ more).length ≤ cm) => prescan_any W (some ⟨gm, 0, none⟩) cm (F ++ more) h1 h2)
      have HPRE1 := hide (fun (W : World) (h1 : BytesIn W (some ⟨g1, 0, none⟩) F) => prescan_any W (some ⟨g1, 0, none⟩) c1 F h1 hob.2.1)
      rw [mark_more (by omega), prescan_more hF4] at HRES
      rw [prescan_more hF4] at HPRE
      rw [List.length_append, hnM] at HRES HPRE
      rw [hnM] at HM2
      unfold Chosen at HRES HRES1
      generalize (chooseV (markM F) (ofE (norm s.data.toList), ofF (norm s.data.toList)) (prescanM F)).1 = r1 at HRES HRES1
      generalize (chooseV (markM F) (ofE (norm s.data.toList), ofF (norm s.data.toList)) (prescanM F)).2 = r2 at HRES HRES1
      generalize (prescanM F).1 = q1 at HPRE HPRE1
      generalize (prescanM F).2 = q2 at HPRE HPRE1
      rw [hnM]
      clear hown hob hbel hF hFg hF4 hnM
      generalize hnF : F.length = nF at *
      have HNF := hide hnF
      clear hnF
      go_wp2_with (first
        | (go_at_call 12; have _x := unhide HW8; refine (awake_any _).mono ?_; rintro e w9 ⟨rfl, hb⟩; have HW9 := hide ((unhide HW8).trans (hb.mono (unhide HW8).size)); clear hb)
        | (go_at_call 13; have _x := unhide HW7; refine ((unhide HPRE) _ gm cm (unhide HBL7) (unhide HRM)).mono ?_; rintro e w8 ⟨rfl, hb⟩; have HBF8 := hide ((unhide HBF7).below hb); have HBL8 := hide ((unhide HBL7).below hb); have HW8 := hide ((unhide HW7).trans (hb.mono (unhide HW7).size)); clear hb)
        | (go_at_call 13; have _x := unhide HW6; refine ((unhide HPRE1) _ (unhide HBF6)).mono ?_; rintro e w7 ⟨rfl, hb⟩; have HBF7 := hide ((unhide HBF6).below hb); have HBL7 := hide ((unhide HBL6).below hb); have HW7 := hide ((unhide HW6).trans (hb.mono (unhide HW6).size)); clear hb)
        | (go_at_call 17; have _x := unhide HW5; refine ((unhide HRES) _ gm cm true (unhide HBL5) (unhide HRM)).mono ?_; rintro e w6 ⟨rfl, hb⟩; have HBF6 := hide ((unhide HBF5).below hb); have HBL6 := hide ((unhide HBL5).below hb); have HW6 := hide ((unhide HW5).trans (hb.mono (unhide HW5).size)); clear hb)
        | (go_at_call 17; have _x := unhide HW4; refine ((unhide HRES) _ gm cm false (unhide HBL4) (unhide HRM)).mono ?_; rintro e w5 ⟨rfl, hb⟩; have HBF5 := hide ((unhide HBF4).below hb); have HBL5 := hide ((unhide HBL4).below hb); have HW5 := hide ((unhide HW4).trans (hb.mono (unhide HW4).size)); clear hb)
        | (go_at_call 17; refine ((unhide HRES1) _ false (unhide HBF3)).mono ?_; rintro e w4 ⟨rfl, hb⟩; have HBF4 := hide ((unhide HBF3).below hb); have HBL4 := hide ((unhide HBL3).below hb); have HW4 := hide ((unhide HW3).trans (hb.mono (unhide HW3).size)); clear hb)
        | (at_builtin; have _x := unhide HO2; go_must (refine ap_append (by rfl) _ _ 22 (by rfl) wr.heap.size 5 i0 _ 1 1 Tryd.underlying22 hi hz0 hz1 hz2 rfl (by omega) gl nF cl (bytesV F) (by rfl) (unhide HO2) (unhide HBE2).size (unhide HGL2) a2 nM cap2 (bytesV more) (by rfl) (by simp [bytesV, unhide HNM]) (news_of ((unhide HBY2).below (unhide HBW2))) (fun h0 => by obtain ⟨b, off, e, _⟩ := (unhide HBY2).cells 0 _ (List.getElem?_eq_getElem (by rw [unhide HNM]; exact h0)); exact ⟨b, off, e⟩) (bytes_one more) (by have := unhide HM2; have := unhide HF4; unfold maxLen; omega) (by have := unhide HM2; have := unhide HF4; omega) ?_); intro gm cm w3 ho3 hgr3 hgl3; have HO3 := hide ho3; have HBE3 := hide ((unhide HBE2).grown hgr3 (unhide HBE2).size (fun k hk => by have : gl = k := Option.some.inj hk; have := unhide HKG; omega)); have HL3 := hide (own_bytes (k := wr.heap.size) (g := gm) (cap := cm) (l := F ++ more) (by rw [List.length_append, unhide HNF, unhide HNM, bytesV_app]; exact ho3)); have HRM := hide (show nF + nM ≤ cm by have := (unhide HL3).2.1; rw [List.length_append, unhide HNF, unhide HNM] at this; exact this); have HBF3 := hide ((unhide HOB).1.below (unhide HBE3)); have HBL3 := hide (unhide HL3).1; have HW3 := hide ((unhide HBEL).trans ((unhide HBE3).mono (unhide HBEL).size)); clear ho3 hgr3 hgl3)
        | (at_builtin; go_must (refine cp_append (by rfl) _ _ 22 (by rfl) 5 i0 _ 1 1 Tryd.underlying22 hi hz0 hz1 hz2 rfl (by omega) wr.heap.size (by rfl) (by exact hblk2) (some ⟨g1, 0, none⟩) nF c1 (bytesV F) (by rfl) (by simp [bytesV, unhide HNF]) (unhide HNW2) (fun _ => ⟨_, _, rfl⟩) (bytes_one F) (by have := unhide HF4; unfold maxLen; omega) (by have := unhide HF4; omega) ?_); intro gl cl w2 ho2 hgr2 hgk2 hgl2; have HO2 := hide ho2; have HGL2 := hide hgl2; have HKG := hide (show wr.heap.size ≤ gl by simp only [World.size_alloc] at hgk2; omega); have HBE2 := hide ((unhide HB2).grown hgr2 (unhide HB2).size (fun k hk => by have : wr.heap.size = k := Option.some.inj hk; omega)); have HBW2 := hide ((unhide HBEL).trans ((unhide HBE2).mono (unhide HBEL).size)); clear ho2 hgr2 hgk2 hgl2))
      go_ret
      exact ⟨rfl, unhide HW9⟩

set_option maxRecDepth 8000 in
set_option maxHeartbeats 2000000 in
theorem bound_yes (b0 off0 cap : Nat) (l : List UInt8) (n : Nat) (hgt : (1024 : Int) < (n : Int)) (hl : l.length = 1024) (hcz : (1024 : Int) ≤ (cap : Int)) (w : World) (hb : BytesIn w (some ⟨b0, off0, none⟩ : Option Addr) l) (a2 : Option Addr) (cap2 : Nat) (more : List UInt8) (hb2 : BytesIn w a2 more) (hm2 : more.length ≤ 140737488351232) (s : ByteArray) (hs : s.size ≤ 9223372036854775807) :
    Calls Tryd.prog 7 #[.slice (some ⟨b0, off0, none⟩) n cap, .slice a2 more.length cap2, .string s] w fun e w' => e = .returned (.bool true) ∧ Below w.heap.size w w' := by
  have HL := hide hl
  clear hl
  have HBY := hide hb
  have HBY2 := hide hb2
  have HM2 := hide hm2
  have HSS := hide hs
  clear hb hb2 hm2 hs
  have hblk : (w.alloc (.cells #[] 5)).heap[w.heap.size]? = some (.cells #[] 5 (0, 0)) := heap_alloc_new w _
  have HB1 := hide ((Below.refl w.heap.size w).alloc (Nat.le_refl _) (.cells #[] 5))
  obtain ⟨i0, hi, hz0, hz1, hz2⟩ := info_parts info5
  have HNEWS : Hid (∀ b off, (some ⟨b0, off0, none⟩ : Option Addr) = some ⟨b, off, none⟩ → ∀ j u, (bytesV l)[j]? = some u → (w.alloc (.cells #[] 5)).cell? ((⟨b, off, none⟩ : Addr).add j) = some u) := hide (news_of ((unhide HBY).below (unhide HB1)))
  have HSRC : Hid (0 < 1024 → ∃ b off, (some ⟨b0, off0, none⟩ : Option Addr) = some (⟨b, off, none⟩ : Addr)) := hide (fun h0 => by obtain ⟨b, off, e, _⟩ := (unhide HBY).cells 0 _ (List.getElem?_eq_getElem (l := l) (i := 0) (by rw [unhide HL]; decide)); exact ⟨b, off, e⟩)
  have HLE : Hid (l.length ≤ 1024) := hide (by rw [unhide HL]; decide)
  go_enter Tryd.func7, Tryd.ntmps7
  go_wp2_with (first
    | (at_builtin; go_must (refine cp_append (by rfl) _ _ 22 (by rfl) 5 i0 _ 1 1 Tryd.underlying22 hi hz0 hz1 hz2 rfl (by omega) w.heap.size (by rfl) (by exact hblk) (some ⟨b0, off0, none⟩ : Option Addr) (1024) cap (bytesV l) (by rfl) (by simp [bytesV, unhide HL]) (unhide HNEWS) (unhide HSRC) (bytes_one l) (by have := unhide HLE; unfold maxLen; omega) (by have := unhide HLE; omega) ?_); intro g cp w1 ho hgr hgk hgl; have HO1 := hide ho; have HBE1 := hide ((unhide HB1).grown hgr (unhide HB1).size (fun k hk => by have : w.heap.size = k := Option.some.inj hk; omega)); clear ho hgr hgk hgl))
  clear hblk HNEWS HSRC HBY hgt hcz
  go_loopg [7] (1024 - l.length) (fun gx s7 wx => ∃ F : List UInt8, F.length + gx = 1024 ∧ FullI w wx s7 F)
  case atStart => exact ⟨l, by have := unhide HLE; omega, ⟨⟨g, cp, by rw [unhide HL], by rw [unhide HL]; exact unhide HO1⟩, unhide HBE1⟩⟩
  case round =>
    obtain ⟨F, hFg, ⟨g1, c1, rfl, hown⟩, hbel⟩ := hrel
    have hob := own_bytes hown
    have HOB := hide hob
    have HBEL := hide hbel
    have HOWN := hide hown
    by_cases hF : F.length < 1024
    · have hFz : (F.length : Int) < 1024 := by omega
      have HF := hide (And.intro hF hFg)
      have hown1 : (wr.alloc (.cells #[.int .u8 32] 5)).ownsRow w.heap.size 5 1 (.slice (some ⟨g1, 0, none⟩) F.length c1) F.length (bytesV F) := hown.alloc _
      have HOWN1 := hide hown1
      have HSB : Hid (w.heap.size ≤ (wr.alloc (.cells #[.int .u8 32] 5)).heap.size) := hide (by have := hbel.size; simp; omega)
      have HSG : Hid (g1 < (wr.alloc (.cells #[.int .u8 32] 5)).heap.size) := hide (by have := hob.2.2.2; simp; omega)
      have HNW : Hid (∀ b off, (some ⟨wr.heap.size, 0, none⟩ : Option Addr) = some ⟨b, off, none⟩ → ∀ j u, ([.int .u8 32] : List Value)[j]? = some u → (wr.alloc (.cells #[.int .u8 32] 5)).cell? ((⟨b, off, none⟩ : Addr).add j) = some u) := hide (fun b off e => news_of (l := [32]) (bytes_new wr [32] (0, 0)) b off e)
      have HBA := hide ((unhide HBEL).alloc hbel.size (.cells #[.int .u8 32] 5))
      clear hown hown1 hob hbel hF hFg
      generalize hnF : F.length = nF at *
      go_wp2_with (at_builtin; go_must (refine ap_append (by rfl) _ _ 22 (by rfl) w.heap.size 5 i0 _ 1 1 Tryd.underlying22 hi hz0 hz1 hz2 rfl (by omega) g1 nF c1 (bytesV F) (by rfl) (unhide HOWN1) (unhide HSB) (unhide HSG) (some ⟨wr.heap.size, 0, none⟩) 1 1 [.int .u8 32] (by rfl) (by rfl) (unhide HNW) (fun _ => ⟨_, _, rfl⟩) (by intro u hu; simp at hu; subst hu; rfl) (by have := unhide HF; unfold maxLen; omega) (by have := unhide HF; omega) ?_); intro g2 c2 w2 ho2 hgr2 hgl2; have HO2 := hide ho2; have HBE2 := hide ((unhide HBA).grown hgr2 (unhide HBA).size (fun k hk => by have : g1 = k := Option.some.inj hk; have := (unhide HOB).2.2.1; omega)); clear ho2 hgr2 hgl2)
      go_roundg (gk - 1)
      case measure => have := unhide HF; omega
      case rel => exact ⟨F ++ [32], by have := unhide HF; simp; omega, ⟨⟨g2, c2, by simp [hnF], by rw [bytesV_app]; simp only [List.length_append, List.length_singleton, hnF]; exact unhide HO2⟩, unhide HBE2⟩⟩
    · have hFz : ¬ (F.length : Int) < 1024 := by omega
      have hF4 : F.length = 1024 := by omega
      have hblk2 : (wr.alloc (.cells #[] 5)).heap[wr.heap.size]? = some (.cells #[] 5 (0, 0)) := heap_alloc_new wr _
      have HB2 := hide ((Below.refl wr.heap.size wr).alloc (Nat.le_refl _) (.cells #[] 5))
      have HNW2 : Hid (∀ b off, (some ⟨g1, 0, none⟩ : Option Addr) = some ⟨b, off, none⟩ → ∀ j u, (bytesV F)[j]? = some u → (wr.alloc (.cells #[] 5)).cell? ((⟨b, off, none⟩ : Addr).add j) = some u) := hide (news_of (hob.1.alloc _))
      have HF4 := hide hF4
      obtain ⟨nM, hnM⟩ : ∃ nM, more.length = nM := ⟨_, rfl⟩
      have HNM := hide hnM
      have HRES := hide (fun (W : World) (gm cm : Nat) (end_ : Bool) (h1 : BytesIn W (some ⟨gm, 0, none⟩) (F ++ more)) (h2 : (F ++ more).length ≤ cm) => choose_any W gm cm (F ++ more) end_ s h1 h2 (by rw [List.length_append]; omega) (unhide HSS))
      have HRES1 := hide (fun (W : World) (end_ : Bool) (h1 : BytesIn W (some ⟨g1, 0, none⟩) F) => choose_any W g1 c1 F end_ s h1 hob.2.1 (by omega) (unhide HSS))
      have HPRE := hide (fun (W : World) (gm cm : Nat) (h1 : BytesIn W (some ⟨gm, 0, none⟩) (F ++ more)) (h2 : (F ++ more).length ≤ cm) => prescan_any W (some ⟨gm, 0, none⟩) cm (F ++ more) h1 h2)
      have HPRE1 := hide (fun (W : World) (h1 : BytesIn W (some ⟨g1, 0, none⟩) F) => prescan_any W (some ⟨g1, 0, none⟩) c1 F h1 hob.2.1)
      rw [mark_more (by omega), prescan_more hF4] at HRES
      rw [prescan_more hF4] at HPRE
      rw [List.length_append, hnM] at HRES HPRE
      rw [hnM] at HM2
      unfold Chosen at HRES HRES1
      generalize (chooseV (markM F) (ofE (norm s.data.toList), ofF (norm s.data.toList)) (prescanM F)).1 = r1 at HRES HRES1
      generalize (chooseV (markM F) (ofE (norm s.data.toList), ofF (norm s.data.toList)) (prescanM F)).2 = r2 at HRES HRES1
      generalize (prescanM F).1 = q1 at HPRE HPRE1
      generalize (prescanM F).2 = q2 at HPRE HPRE1
      rw [hnM]
      clear hown hob hbel hF hFg hF4 hnM
      generalize hnF : F.length = nF at *
      have HNF := hide hnF
      clear hnF
      go_wp2_with (first
        | (go_at_call 12; have _x := unhide HW8; refine (awake_any _).mono ?_; rintro e w9 ⟨rfl, hb⟩; have HW9 := hide ((unhide HW8).trans (hb.mono (unhide HW8).size)); clear hb)
        | (go_at_call 13; have _x := unhide HW7; refine ((unhide HPRE) _ gm cm (unhide HBL7) (unhide HRM)).mono ?_; rintro e w8 ⟨rfl, hb⟩; have HBF8 := hide ((unhide HBF7).below hb); have HBL8 := hide ((unhide HBL7).below hb); have HW8 := hide ((unhide HW7).trans (hb.mono (unhide HW7).size)); clear hb)
        | (go_at_call 13; have _x := unhide HW6; refine ((unhide HPRE1) _ (unhide HBF6)).mono ?_; rintro e w7 ⟨rfl, hb⟩; have HBF7 := hide ((unhide HBF6).below hb); have HBL7 := hide ((unhide HBL6).below hb); have HW7 := hide ((unhide HW6).trans (hb.mono (unhide HW6).size)); clear hb)
        | (go_at_call 17; have _x := unhide HW5; refine ((unhide HRES) _ gm cm true (unhide HBL5) (unhide HRM)).mono ?_; rintro e w6 ⟨rfl, hb⟩; have HBF6 := hide ((unhide HBF5).below hb); have HBL6 := hide ((unhide HBL5).below hb); have HW6 := hide ((unhide HW5).trans (hb.mono (unhide HW5).size)); clear hb)
        | (go_at_call 17; have _x := unhide HW4; refine ((unhide HRES) _ gm cm false (unhide HBL4) (unhide HRM)).mono ?_; rintro e w5 ⟨rfl, hb⟩; have HBF5 := hide ((unhide HBF4).below hb); have HBL5 := hide ((unhide HBL4).below hb); have HW5 := hide ((unhide HW4).trans (hb.mono (unhide HW4).size)); clear hb)
        | (go_at_call 17; refine ((unhide HRES1) _ false (unhide HBF3)).mono ?_; rintro e w4 ⟨rfl, hb⟩; have HBF4 := hide ((unhide HBF3).below hb); have HBL4 := hide ((unhide HBL3).below hb); have HW4 := hide ((unhide HW3).trans (hb.mono (unhide HW3).size)); clear hb)
        | (at_builtin; have _x := unhide HO2; go_must (refine ap_append (by rfl) _ _ 22 (by rfl) wr.heap.size 5 i0 _ 1 1 Tryd.underlying22 hi hz0 hz1 hz2 rfl (by omega) gl nF cl (bytesV F) (by rfl) (unhide HO2) (unhide HBE2).size (unhide HGL2) a2 nM cap2 (bytesV more) (by rfl) (by simp [bytesV, unhide HNM]) (news_of ((unhide HBY2).below (unhide HBW2))) (fun h0 => by obtain ⟨b, off, e, _⟩ := (unhide HBY2).cells 0 _ (List.getElem?_eq_getElem (by rw [unhide HNM]; exact h0)); exact ⟨b, off, e⟩) (bytes_one more) (by have := unhide HM2; have := unhide HF4; unfold maxLen; omega) (by have := unhide HM2; have := unhide HF4; omega) ?_); intro gm cm w3 ho3 hgr3 hgl3; have HO3 := hide ho3; have HBE3 := hide ((unhide HBE2).grown hgr3 (unhide HBE2).size (fun k hk => by have : gl = k := Option.some.inj hk; have := unhide HKG; omega)); have HL3 := hide (own_bytes (k := wr.heap.size) (g := gm) (cap := cm) (l := F ++ more) (by rw [List.length_append, unhide HNF, unhide HNM, bytesV_app]; exact ho3)); have HRM := hide (show nF + nM ≤ cm by have := (unhide HL3).2.1; rw [List.length_append, unhide HNF, unhide HNM] at this; exact this); have HBF3 := hide ((unhide HOB).1.below (unhide HBE3)); have HBL3 := hide (unhide HL3).1; have HW3 := hide ((unhide HBEL).trans ((unhide HBE3).mono (unhide HBEL).size)); clear ho3 hgr3 hgl3)
        | (at_builtin; go_must (refine cp_append (by rfl) _ _ 22 (by rfl) 5 i0 _ 1 1 Tryd.underlying22 hi hz0 hz1 hz2 rfl (by omega) wr.heap.size (by rfl) (by exact hblk2) (some ⟨g1, 0, none⟩) nF c1 (bytesV F) (by rfl) (by simp [bytesV, unhide HNF]) (unhide HNW2) (fun _ => ⟨_, _, rfl⟩) (bytes_one F) (by have := unhide HF4; unfold maxLen; omega) (by have := unhide HF4; omega) ?_); intro gl cl w2 ho2 hgr2 hgk2 hgl2; have HO2 := hide ho2; have HGL2 := hide hgl2; have HKG := hide (show wr.heap.size ≤ gl by simp only [World.size_alloc] at hgk2; omega); have HBE2 := hide ((unhide HB2).grown hgr2 (unhide HB2).size (fun k hk => by have : wr.heap.size = k := Option.some.inj hk; omega)); have HBW2 := hide ((unhide HBEL).trans ((unhide HBE2).mono (unhide HBEL).size)); clear ho2 hgr2 hgk2 hgl2))
      go_ret
      exact ⟨rfl, unhide HW9⟩
end Go.Proofs.YtmikcdmlhocgbaaDoor
