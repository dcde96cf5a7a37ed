/-
  LabelBack, walked.
-/
import Derived.Test.YtdacaedjcfmpdaaDoorLg
namespace Go.Proofs.YtdacaedjcfmpdaaDoor
open Go.RowKit Go.Lib

set_option maxHeartbeats 8000000 in
theorem labelBack_walk (v : UInt8) (a1 a2 : Option Addr) (cap1 cap2 : Nat) (l1 l2 : List UInt8) (w : World) (hs1 : BytesIn w a1 l1) (hs2 : BytesIn w a2 l2) (hn1 : l1.length ≤ maxLen) (hn2 : l2.length ≤ maxLen) :
    Calls Tryd.prog 5 #[.int .u8 v.toNat, .slice a1 l1.length cap1, .slice a2 l2.length cap2] w fun e w' => e = .returned (.bool true) ∧ Below w.heap.size w w' := by
  have hl1 : (l1.length : Int) ≤ 9223372036854775807 := by unfold maxLen at hn1; omega
  have hl2 : (l2.length : Int) ≤ 9223372036854775807 := by unfold maxLen at hn2; omega
  have HS1 := hide hs1
  have HS2 := hide hs2
  clear hs1 hs2 hn1 hn2
  have hv0 : (0 : Int) ≤ (v.toNat : Int) := by omega
  have hv1 : (v.toNat : Int) ≤ 255 := by have := v.toNat_lt; omega
  obtain ⟨k, hk⟩ : ∃ k : Nat, v.toNat % 7 = k := ⟨_, rfl⟩
  have hk7 : k < 7 := by omega
  have hr : (v.toNat : Int).tmod 7 = k := by
    rw [Int.tmod_eq_emod_of_nonneg hv0]; omega
  clear hk
  obtain ⟨n, hn⟩ : ∃ n, encN[k]? = some n := ⟨_, List.getElem?_eq_getElem (by rw [encN_len]; exact hk7)⟩
  obtain ⟨f1, f2, f3⟩ := name_facts k n hn
  have e1 : nmP (k : Int) = n := by unfold nmP; rw [if_pos (by omega), Int.toNat_natCast, hn]; rfl
  have e2 : nmF (k : Int) = 0 := by unfold nmF; rw [if_pos (by omega)]
  have hN := name_any (k : Int) w
  rw [e1, e2] at hN
  obtain ⟨s, hs⟩ : ∃ s : ByteArray, s = ⟨n.toArray⟩ := ⟨_, rfl⟩
  have hsl : s.data.toList = n := by rw [hs]
  have hsz : (s.size : Int) ≤ 14 := by rw [← len_data, hsl]; omega
  rw [← hs] at hN
  have HN := hide hN
  have HF2 := hide f2
  have HF3 := hide f3
  have HSL := hide hsl
  clear hN f1 f2 f3 e1 e2 hn hs hsl
  have hcv := fun W => run_bytes_of_string (P := Tryd.prog) W 9 35 5 s Tryd.underlying9 Tryd.underlying35 Tryd.underlying5
  go_enter Tryd.func5, Tryd.ntmps5
  set_option maxRecDepth 10000 in
  go_wp2_with (go_at_call 11; refine (unhide HN).mono ?_; rintro e w1 ⟨rfl, hb1⟩; have HB1 := hide hb1; clear hb1)
  go_loopg [10, 11, 12] s.size (fun g s10 _ _ wx => ∃ (i : Nat) (l : List UInt8), s10 = .int .i64 i ∧ i + g = s.size ∧ BAt w1 wx l ∧ l.map low = n.map low)
  case atStart => exact ⟨0, s.data.toList, rfl, by omega, bat_start w1 s _ (grownCap_ge w1 s.size 0 5), by rw [unhide HSL]⟩
  case round =>
    obtain ⟨i, l, rfl, hig, hba, hll⟩ := hrel
    clear hcv
    have hlen : l.length = s.size := by
      have := congrArg List.length hll
      rw [List.length_map, List.length_map, ← unhide HSL, len_data] at this
      exact this
    have HBA := hide hba
    have HLL := hide hll
    have HLEN := hide hlen
    clear hll hlen
    by_cases hi : i < s.size
    · have hiz : (i : Int) < (s.size : Int) := by omega
      obtain ⟨c, hx⟩ : ∃ c, l[i]? = some c := ⟨_, List.getElem?_eq_getElem (by rw [unhide HLEN]; exact hi)⟩
      have d0 := hba.cells i c hx
      have fr0 := hba.free i (by rw [unhide HLEN]; exact hi)
      have hsz2 := (unhide HS2).below ((unhide HB1).trans (hba.below.mono (unhide HB1).size))
      have HX := hide hx
      have hc0 : (0 : Int) ≤ (c.toNat : Int) := by omega
      have hc1 : (c.toNat : Int) ≤ 255 := by have := c.toNat_lt; omega
      clear hba hx
      have HSB : Hid (∀ u, l2[i]? = some u → ∃ nb noff, a2 = some ⟨nb, noff, none⟩ ∧ wr.cell? ⟨nb, noff + i, none⟩ = some (.int .u8 (u.toNat : Int)) ∧ nb < w1.heap.size) := hide (fun u hu => by
        obtain ⟨nb, noff, e, _⟩ := (unhide HS2).cells i u hu
        obtain ⟨nb', noff', e', hc'⟩ := hsz2.cells i u hu
        rw [e] at e'; cases e'
        obtain ⟨nb3, noff3, e3, hc3⟩ := (unhide HS2).cells i u hu
        rw [e] at e3; cases e3
        exact ⟨nb, noff, e, hc', Nat.lt_of_lt_of_le (World.block_lt_of_cell? w _ hc3) (unhide HB1).size⟩)
      clear hsz2
      have HFIN : Hid (∀ wz, (∃ l', BAt w1 wz l' ∧ l'.map low = n.map low) → ∃ (i_1 : Nat) (l : List UInt8), Value.int .i64 ((i : Int) + 1) = .int .i64 i_1 ∧ i_1 + (gk - 1) = s.size ∧ BAt w1 wz l ∧ l.map low = n.map low) := hide (fun wz ⟨l', h1, h2⟩ => ⟨i + 1, l', by simp, by omega, h1, h2⟩)
      by_cases h65 : (65 : Int) ≤ (c.toNat : Int)
      · by_cases h90 : (c.toNat : Int) ≤ 90
        · have HLC := hide (low_cap c (by omega) (by omega))
          have hA1 : (97 : Int) ≤ (c.toNat : Int) + 32 := by omega
          have hA2 : (c.toNat : Int) + 32 ≤ 122 := by omega
          by_cases hj : i < l2.length
          · have hjz : (i : Int) < (l2.length : Int) := by omega
            obtain ⟨u, hu⟩ : ∃ u, l2[i]? = some u := ⟨_, List.getElem?_eq_getElem hj⟩
            obtain ⟨nb, noff, rfl, dv, hnb⟩ := (unhide HSB) u hu
            have hnb2 : ¬ nb = w1.heap.size := by omega
            have hnb3 : ¬ w1.heap.size = nb := by omega
            have hu0 : (0 : Int) ≤ (u.toNat : Int) := by omega
            have hu1 : (u.toNat : Int) ≤ 255 := by have := u.toNat_lt; omega
            clear hu
            by_cases hodd : u.toNat % 2 = 1
            · have ho : (u.toNat : Int).tmod 2 = 1 := by rw [Int.tmod_eq_emod_of_nonneg hu0]; omega
              clear hodd
              set_option maxRecDepth 10000 in
              go_wp2
              go_roundg (gk - 1)
              case measure => omega
              case rel => exact (unhide HFIN) _ (bat_two (unhide HBA) (unhide HX) (unhide HLL) (v := low c) (u := c) (by rw [unhide HLC]) (low_low c) (by omega) rfl)
            · have ho : (u.toNat : Int).tmod 2 = 0 := by rw [Int.tmod_eq_emod_of_nonneg hu0]; omega
              clear hodd
              set_option maxRecDepth 10000 in
              go_wp2
              go_roundg (gk - 1)
              case measure => omega
              case rel => exact (unhide HFIN) _ (let ⟨l', h1, h2, _⟩ := bat_one (unhide HBA) (unhide HX) (unhide HLL) (v := low c) (by rw [unhide HLC]) (low_low c); ⟨l', h1, h2⟩)
          · have hjz : ¬ (i : Int) < (l2.length : Int) := by omega
            set_option maxRecDepth 10000 in
            go_wp2
            go_roundg (gk - 1)
            case measure => omega
            case rel => exact (unhide HFIN) _ (let ⟨l', h1, h2, _⟩ := bat_one (unhide HBA) (unhide HX) (unhide HLL) (v := low c) (by rw [unhide HLC]) (low_low c); ⟨l', h1, h2⟩)
        · by_cases h97 : (97 : Int) ≤ (c.toNat : Int)
          · by_cases h122 : (c.toNat : Int) ≤ 122
            · have HUP := hide (up_nat c (by omega) (by omega))
              have HLU := hide (low_up c (by omega) (by omega))
              by_cases hj : i < l2.length
              · have hjz : (i : Int) < (l2.length : Int) := by omega
                obtain ⟨u, hu⟩ : ∃ u, l2[i]? = some u := ⟨_, List.getElem?_eq_getElem hj⟩
                obtain ⟨nb, noff, rfl, dv, hnb⟩ := (unhide HSB) u hu
                have hnb2 : ¬ nb = w1.heap.size := by omega
                have hnb3 : ¬ w1.heap.size = nb := by omega
                have hu0 : (0 : Int) ≤ (u.toNat : Int) := by omega
                have hu1 : (u.toNat : Int) ≤ 255 := by have := u.toNat_lt; omega
                clear hu
                by_cases hodd : u.toNat % 2 = 1
                · have ho : (u.toNat : Int).tmod 2 = 1 := by rw [Int.tmod_eq_emod_of_nonneg hu0]; omega
                  clear hodd
                  set_option maxRecDepth 10000 in
                  go_wp2
                  go_roundg (gk - 1)
                  case measure => omega
                  case rel => exact (unhide HFIN) _ (bat_two (unhide HBA) (unhide HX) (unhide HLL) (v := c) (u := up c) rfl rfl (by rw [unhide HUP]) (unhide HLU))
                · have ho : (u.toNat : Int).tmod 2 = 0 := by rw [Int.tmod_eq_emod_of_nonneg hu0]; omega
                  clear hodd
                  set_option maxRecDepth 10000 in
                  go_wp2
                  go_roundg (gk - 1)
                  case measure => omega
                  case rel => exact (unhide HFIN) _ (let ⟨l', h1, h2, _⟩ := bat_one (unhide HBA) (unhide HX) (unhide HLL) (v := c) rfl rfl; ⟨l', h1, h2⟩)
              · have hjz : ¬ (i : Int) < (l2.length : Int) := by omega
                set_option maxRecDepth 10000 in
                go_wp2
                go_roundg (gk - 1)
                case measure => omega
                case rel => exact (unhide HFIN) _ (let ⟨l', h1, h2, _⟩ := bat_one (unhide HBA) (unhide HX) (unhide HLL) (v := c) rfl rfl; ⟨l', h1, h2⟩)
            · skip
              by_cases hj : i < l2.length
              · have hjz : (i : Int) < (l2.length : Int) := by omega
                obtain ⟨u, hu⟩ : ∃ u, l2[i]? = some u := ⟨_, List.getElem?_eq_getElem hj⟩
                obtain ⟨nb, noff, rfl, dv, hnb⟩ := (unhide HSB) u hu
                have hnb2 : ¬ nb = w1.heap.size := by omega
                have hnb3 : ¬ w1.heap.size = nb := by omega
                have hu0 : (0 : Int) ≤ (u.toNat : Int) := by omega
                have hu1 : (u.toNat : Int) ≤ 255 := by have := u.toNat_lt; omega
                clear hu
                by_cases hodd : u.toNat % 2 = 1
                · have ho : (u.toNat : Int).tmod 2 = 1 := by rw [Int.tmod_eq_emod_of_nonneg hu0]; omega
                  clear hodd
                  set_option maxRecDepth 10000 in
                  go_wp2
                  go_roundg (gk - 1)
                  case measure => omega
                  case rel => exact (unhide HFIN) _ (bat_two (unhide HBA) (unhide HX) (unhide HLL) (v := c) (u := c) rfl rfl rfl rfl)
                · have ho : (u.toNat : Int).tmod 2 = 0 := by rw [Int.tmod_eq_emod_of_nonneg hu0]; omega
                  clear hodd
                  set_option maxRecDepth 10000 in
                  go_wp2
                  go_roundg (gk - 1)
                  case measure => omega
                  case rel => exact (unhide HFIN) _ (let ⟨l', h1, h2, _⟩ := bat_one (unhide HBA) (unhide HX) (unhide HLL) (v := c) rfl rfl; ⟨l', h1, h2⟩)
              · have hjz : ¬ (i : Int) < (l2.length : Int) := by omega
                set_option maxRecDepth 10000 in
                go_wp2
                go_roundg (gk - 1)
                case measure => omega
                case rel => exact (unhide HFIN) _ (let ⟨l', h1, h2, _⟩ := bat_one (unhide HBA) (unhide HX) (unhide HLL) (v := c) rfl rfl; ⟨l', h1, h2⟩)
          · skip
            by_cases hj : i < l2.length
            · have hjz : (i : Int) < (l2.length : Int) := by omega
              obtain ⟨u, hu⟩ : ∃ u, l2[i]? = some u := ⟨_, List.getElem?_eq_getElem hj⟩
              obtain ⟨nb, noff, rfl, dv, hnb⟩ := (unhide HSB) u hu
              have hnb2 : ¬ nb = w1.heap.size := by omega
              have hnb3 : ¬ w1.heap.size = nb := by omega
              have hu0 : (0 : Int) ≤ (u.toNat : Int) := by omega
              have hu1 : (u.toNat : Int) ≤ 255 := by have := u.toNat_lt; omega
              clear hu
              by_cases hodd : u.toNat % 2 = 1
              · have ho : (u.toNat : Int).tmod 2 = 1 := by rw [Int.tmod_eq_emod_of_nonneg hu0]; omega
                clear hodd
                set_option maxRecDepth 10000 in
                go_wp2
                go_roundg (gk - 1)
                case measure => omega
                case rel => exact (unhide HFIN) _ (bat_two (unhide HBA) (unhide HX) (unhide HLL) (v := c) (u := c) rfl rfl rfl rfl)
              · have ho : (u.toNat : Int).tmod 2 = 0 := by rw [Int.tmod_eq_emod_of_nonneg hu0]; omega
                clear hodd
                set_option maxRecDepth 10000 in
                go_wp2
                go_roundg (gk - 1)
                case measure => omega
                case rel => exact (unhide HFIN) _ (let ⟨l', h1, h2, _⟩ := bat_one (unhide HBA) (unhide HX) (unhide HLL) (v := c) rfl rfl; ⟨l', h1, h2⟩)
            · have hjz : ¬ (i : Int) < (l2.length : Int) := by omega
              set_option maxRecDepth 10000 in
              go_wp2
              go_roundg (gk - 1)
              case measure => omega
              case rel => exact (unhide HFIN) _ (let ⟨l', h1, h2, _⟩ := bat_one (unhide HBA) (unhide HX) (unhide HLL) (v := c) rfl rfl; ⟨l', h1, h2⟩)
      · have h97 : ¬ (97 : Int) ≤ (c.toNat : Int) := by omega
        by_cases hj : i < l2.length
        · have hjz : (i : Int) < (l2.length : Int) := by omega
          obtain ⟨u, hu⟩ : ∃ u, l2[i]? = some u := ⟨_, List.getElem?_eq_getElem hj⟩
          obtain ⟨nb, noff, rfl, dv, hnb⟩ := (unhide HSB) u hu
          have hnb2 : ¬ nb = w1.heap.size := by omega
          have hnb3 : ¬ w1.heap.size = nb := by omega
          have hu0 : (0 : Int) ≤ (u.toNat : Int) := by omega
          have hu1 : (u.toNat : Int) ≤ 255 := by have := u.toNat_lt; omega
          clear hu
          by_cases hodd : u.toNat % 2 = 1
          · have ho : (u.toNat : Int).tmod 2 = 1 := by rw [Int.tmod_eq_emod_of_nonneg hu0]; omega
            clear hodd
            set_option maxRecDepth 10000 in
            go_wp2
            go_roundg (gk - 1)
            case measure => omega
            case rel => exact (unhide HFIN) _ (bat_two (unhide HBA) (unhide HX) (unhide HLL) (v := c) (u := c) rfl rfl rfl rfl)
          · have ho : (u.toNat : Int).tmod 2 = 0 := by rw [Int.tmod_eq_emod_of_nonneg hu0]; omega
            clear hodd
            set_option maxRecDepth 10000 in
            go_wp2
            go_roundg (gk - 1)
            case measure => omega
            case rel => exact (unhide HFIN) _ (let ⟨l', h1, h2, _⟩ := bat_one (unhide HBA) (unhide HX) (unhide HLL) (v := c) rfl rfl; ⟨l', h1, h2⟩)
        · have hjz : ¬ (i : Int) < (l2.length : Int) := by omega
          set_option maxRecDepth 10000 in
          go_wp2
          go_roundg (gk - 1)
          case measure => omega
          case rel => exact (unhide HFIN) _ (let ⟨l', h1, h2, _⟩ := bat_one (unhide HBA) (unhide HX) (unhide HLL) (v := c) rfl rfl; ⟨l', h1, h2⟩)
    · have hiz : ¬ (i : Int) < (s.size : Int) := by omega
      have hbk : (convert 35 9 (.slice (some ⟨w1.heap.size, 0, none⟩) s.size (grownCap w1 s.size 0 5))).run Tryd.prog wr = .ok (.string ⟨l.toArray⟩) wr := by
        have := bat_back w1 wr l (grownCap w1 s.size 0 5) hba
        rw [unhide HLEN] at this
        exact this
      clear hba
      go_wp2
      go_loopg [13, 15] 100 (fun g s13 s15 wx => ∃ (i : Nat) (x : ByteArray), s15 = .int .i64 i ∧ s13 = .string x ∧ i + g = 100 ∧ x.size ≤ 14 + i ∧ norm x.data.toList = n.map low ∧ Strs5 wx wr.heap.size ∧ BytesIn wx a1 l1 ∧ Below w.heap.size w wx)
      case atStart =>
        refine ⟨0, ⟨l.toArray⟩, rfl, rfl, rfl, ?_, norm_name l n (unhide HLL) (unhide HF2), strs5_new wr, ?_, ?_⟩
        · show l.toArray.size ≤ 14 + 0
          have := unhide HLEN
          simp; omega
        · exact (unhide HS1).below (((unhide HB1).trans ((unhide HBA).below.mono (unhide HB1).size)).alloc (by have := ((unhide HB1).trans ((unhide HBA).below.mono (unhide HB1).size)).size; exact this) _)
        · exact ((unhide HB1).trans ((unhide HBA).below.mono (unhide HB1).size)).alloc (by have := ((unhide HB1).trans ((unhide HBA).below.mono (unhide HB1).size)).size; exact this) _
      case round =>
        clear hiz hi hig
        obtain ⟨j, x, rfl, rfl, hjg, hxs, hxn, hst, hby, hbel⟩ := hrel
        have HXN := hide hxn
        have HBL := hide hbel
        have HST := hide hst
        have HBY := hide hby
        have HE : Hid (ofE (norm x.data.toList) = k ∧ ofF (norm x.data.toList) = 0) := hide (by rw [hxn]; unfold ofE ofF; rw [unhide HF3]; simp)
        have HOF : Hid (x.size ≤ 200 → Calls Tryd.prog 8 #[.string x] wr fun e w' => e = .returned (.tuple #[.int .i64 k, .int .i64 0]) ∧ Below w.heap.size w w') := hide (fun hx => by
          have := of_from w x (by omega) wr hbel
          rw [(unhide HE).1, (unhide HE).2] at this
          exact this)
        clear hxn hbel
        by_cases hj1 : j < l1.length
        · have hj1z : (j : Int) < (l1.length : Int) := by omega
          by_cases hj2 : j < 100
          · have hj2z : (j : Int) < 100 := by omega
            obtain ⟨u, hu⟩ : ∃ u, l1[j]? = some u := ⟨_, List.getElem?_eq_getElem hj1⟩
            obtain ⟨nb, noff, rfl, dv⟩ := hby.cells j u hu
            have hu0 : (0 : Int) ≤ (u.toNat : Int) := by omega
            have hu1 : (u.toNat : Int) ≤ 255 := by have := u.toNat_lt; omega
            obtain ⟨r, hrr⟩ : ∃ r : Nat, u.toNat % 5 = r := ⟨_, rfl⟩
            have hr5 : r < 5 := by omega
            have hrt : (u.toNat : Int).tmod 5 = r := by rw [Int.tmod_eq_emod_of_nonneg hu0]; omega
            have hr5z : (r : Int) < 5 := by omega
            obtain ⟨c, hc1, hc2⟩ := hst.at_ r hr5
            have HC := hide hc1
            have hq1 : ¬ 9223372036854775807 < x.size + 1 := by omega
            have hq2 : ¬ 9223372036854775807 < 1 + x.size := by omega
            have HXS := hide hxs
            clear hrr hu hby hst hc1 hxs
            by_cases hodd : j % 2 = 0
            · have ho : (j : Int).tmod 2 = 0 := by rw [Int.tmod_eq_emod_of_nonneg (by omega)]; omega
              clear hodd
              set_option maxRecDepth 10000 in
              go_wp2
              go_roundg (gk - 1)
              case measure => omega
              case rel =>
                refine ⟨j + 1, x ++ ⟨#[c]⟩, by go_num, rfl, by omega, ?_, ?_, unhide HST, unhide HBY, unhide HBL⟩
                · rw [ByteArray.size_append]; have := unhide HXS; show x.size + 1 ≤ _; omega
                · have e : (x ++ (⟨#[c]⟩ : ByteArray)).data.toList = x.data.toList ++ [c] := by simp
                  rw [e, norm_last _ c (unhide HC)]; exact unhide HXN
            · have ho : (j : Int).tmod 2 = 1 := by rw [Int.tmod_eq_emod_of_nonneg (by omega)]; omega
              clear hodd
              set_option maxRecDepth 10000 in
              go_wp2
              go_roundg (gk - 1)
              case measure => omega
              case rel =>
                refine ⟨j + 1, ⟨#[c]⟩ ++ x, by go_num, rfl, by omega, ?_, ?_, unhide HST, unhide HBY, unhide HBL⟩
                · rw [ByteArray.size_append]; have := unhide HXS; show 1 + x.size ≤ _; omega
                · have e : ((⟨#[c]⟩ : ByteArray) ++ x).data.toList = c :: x.data.toList := by simp
                  rw [e, norm_first _ c (unhide HC)]; exact unhide HXN
          · have hj2z : ¬ (j : Int) < 100 := by omega
            have HOF2 := hide ((unhide HOF) (by omega))
            clear hst hby
            set_option maxRecDepth 10000 in
            go_wp2_with (go_at_call 8; refine (unhide HOF2).mono ?_; rintro e w6 ⟨rfl, hb6⟩; have HB6 := hide hb6; clear hb6)
            go_ret
            exact ⟨rfl, unhide HB6⟩
        · have hj1z : ¬ (j : Int) < (l1.length : Int) := by omega
          have HOF2 := hide ((unhide HOF) (by omega))
          clear hst hby
          set_option maxRecDepth 10000 in
          go_wp2_with (go_at_call 8; refine (unhide HOF2).mono ?_; rintro e w6 ⟨rfl, hb6⟩; have HB6 := hide hb6; clear hb6)
          go_ret
          exact ⟨rfl, unhide HB6⟩
end Go.Proofs.YtdacaedjcfmpdaaDoor
