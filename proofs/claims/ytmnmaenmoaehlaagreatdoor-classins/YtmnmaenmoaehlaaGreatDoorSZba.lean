/-
  Attributes, by the document.
-/
import Derived.Test.YtmnmaenmoaehlaaGreatDoorSZaz
namespace Go.Proofs.YtmnmaenmoaehlaaGreatDoor
open Go.RowKit Go.Lib

def nm (l : List AttrM) : List (List UInt8) := l.map (·.name.data.toList)

set_option maxHeartbeats 8000000 in
set_option maxRecDepth 100000 in
theorem xattrs_any (w : World) (a : Option Addr) (cap : Nat) (l : List AttrM) (hl : AttrsIn w a l) (hlen : l.length ≤ 1024) (hsm : ∀ x ∈ l, x.name.size ≤ 100000000 ∧ x.val.size ≤ 100000000) :
    Calls Tryz.prog 29 #[.slice a l.length cap] w fun e w' => e = .returned (.bool (attrsOk l)) ∧ Below w.heap.size w w' := by
  obtain ⟨q, hq⟩ : ∃ q, attrsOk l = q := ⟨_, rfl⟩
  rw [hq]
  have HQ := hide hq
  have HL := hide hl
  have HSM := hide hsm
  clear hq hl hsm
  go_enter Tryz.func29, Tryz.ntmps29
  go_wp2
  go_loopg [3] l.length (fun g v3 wx => ∃ i : Nat, i + g = l.length ∧ v3 = .int .i64 i ∧ Below w.heap.size w wx ∧ (l.take i).all okAttr = true ∧ (nm (l.take i)).Nodup)
  case atStart => exact ⟨0, by omega, rfl, Below.refl _ _, rfl, List.nodup_nil⟩
  case round =>
    obtain ⟨i, hig, rfl, hb, hall, hnd⟩ := hrel
    by_cases hi : i < l.length
    · have hiz : (i : Int) < (l.length : Int) := by omega
      obtain ⟨x, hx⟩ : ∃ x, l[i]? = some x := ⟨_, List.getElem?_eq_getElem hi⟩
      obtain ⟨b, off, rfl, c0, c1, c2, c3⟩ := ((unhide HL).below hb).cells i x hx
      have HB := hide hb
      have HALL := hide hall
      have HND := hide hnd
      have hbig := unhide HSM x (List.mem_of_getElem? hx)
      have HX := hide hx
      have HPN := hide (fun W => xname_any x.name W (by omega))
      have HPV := hide (fun W => xplain_any x.val W hbig.2)
      have HNO : Hid (okAttr x = false → q = false) := hide (fun h => by
        rw [← unhide HQ]
        unfold attrsOk
        rw [show l.all okAttr = false from List.all_eq_false.2 ⟨x, List.mem_of_getElem? (unhide HX), by rw [h]; exact Bool.false_ne_true⟩]
        rfl)
      clear hb hall hnd hx hbig
      cases h1 : (x.space == 0)
      · have h1b : (x.space != 0) = true := by simp [bne, h1]
        have HR := hide (unhide HNO (by unfold okAttr; rw [h1]; rfl))
        clear h1
        go_wp2
        go_ret
        exact ⟨by rw [unhide HR]; rfl, unhide HB⟩
      have h1b : (x.space != 0) = false := by simp [bne, h1]
      cases h2 : x.pre.toList.isEmpty
      · have HR := hide (unhide HNO (by unfold okAttr; rw [h1, h2]; rfl))
        clear h1
        go_wp2
        go_ret
        exact ⟨by rw [unhide HR]; rfl, unhide HB⟩
      cases h3 : nameU x.name.data.toList
      · have HR := hide (unhide HNO (by unfold okAttr; rw [h1, h2, h3]; rfl))
        clear h1
        go_wp2_with (go_at_call 62; refine ((unhide HPN) _).mono ?_; rintro e w1 ⟨rfl, hw⟩; rw [hw, h3]; clear hw)
        go_ret
        exact ⟨by rw [unhide HR]; rfl, unhide HB⟩
      cases h4 : plainU x.val.data.toList
      · have HR := hide (unhide HNO (by unfold okAttr; rw [h1, h2, h3, h4]; rfl))
        clear h1
        go_wp2_with (first
          | (go_at_call 62; refine ((unhide HPN) _).mono ?_; rintro e w1 ⟨rfl, hw⟩; rw [hw, h3]; clear hw)
          | (go_at_call 61; refine ((unhide HPV) _).mono ?_; rintro e w2 ⟨rfl, hbn⟩; rw [h4]; have HBN2 := hide ((unhide HB).trans (hbn.mono (unhide HB).size)); clear hbn))
        go_ret
        exact ⟨by rw [unhide HR]; rfl, unhide HBN2⟩
      have HOK : Hid (okAttr x = true) := hide (by unfold okAttr; rw [h1, h2, h3, h4]; rfl)
      clear h1
      go_wp2_with (first
        | (go_at_call 62; refine ((unhide HPN) _).mono ?_; rintro e w1 ⟨rfl, hw⟩; rw [hw, h3]; clear hw)
        | (go_at_call 61; refine ((unhide HPV) _).mono ?_; rintro e w2 ⟨rfl, hbn⟩; rw [h4]; have HBN2 := hide ((unhide HB).trans (hbn.mono (unhide HB).size)); clear hbn))
      clear c0 c1 c2 c3
      go_loopg [4] i (fun g v4 wx => ∃ k : Nat, k + g = i ∧ v4 = .int .i64 k ∧ Below w.heap.size w wx ∧ ∀ j y, j < k → l[j]? = some y → y.name.data.toList ≠ x.name.data.toList)
      case atStart => exact ⟨0, by omega, rfl, unhide HBN2, fun j y hj => absurd hj (Nat.not_lt_zero _)⟩
      case round =>
        obtain ⟨k, hkg, rfl, hb2, hne⟩ := hrel
        have HNE := hide hne
        clear hne
        by_cases hk : k < i
        · have hkz : (k : Int) < (i : Int) := by omega
          have hkl : k < l.length := by omega
          have hklz : (k : Int) < (l.length : Int) := by omega
          obtain ⟨y, hy⟩ : ∃ y, l[k]? = some y := ⟨_, List.getElem?_eq_getElem hkl⟩
          obtain ⟨b', off', e', _, _, d2, _⟩ := ((unhide HL).below hb2.drew).cells k y hy
          cases e'
          obtain ⟨b', off', e', _, _, c2, _⟩ := ((unhide HL).below hb2.drew).cells i x (unhide HX)
          cases e'
          have HY := hide hy
          have HB2 := hide hb2
          clear hy hb2
          cases hq : (y.name.toList == x.name.toList)
          · have HN2 : Hid (∀ j z, j < k + 1 → l[j]? = some z → z.name.data.toList ≠ x.name.data.toList) := hide (fun j z hj hz => by
              by_cases e : j = k
              · subst e
                rw [unhide HY] at hz
                cases hz
                rw [beq_eq_false_iff_ne, toList_data, toList_data] at hq
                exact hq
              · exact (unhide HNE) j z (by omega) hz)
            go_wp2
            go_region
            all_goals go_wp2
            all_goals go_roundg (gk - 1)
            all_goals first
              | omega
              | exact ⟨k + 1, by omega, by go_num, (unhide HB2).drew, unhide HN2⟩
          · have HR : Hid (q = false) := hide (by
              rw [← unhide HQ]
              unfold attrsOk
              rw [Bool.and_eq_false_iff]
              right
              rw [decide_eq_false_iff_not]
              intro hnd
              have e : y.name.data.toList = x.name.data.toList := by rw [beq_iff_eq, toList_data, toList_data] at hq; exact hq
              have hp := List.pairwise_iff_getElem.1 hnd k i (by simpa using hkl) (by simpa using hi) hk
              apply hp
              have a1 := (List.getElem?_eq_some_iff.1 (unhide HY)).2
              have a2 := (List.getElem?_eq_some_iff.1 (unhide HX)).2
              rw [List.getElem_map, List.getElem_map, a1, a2]
              exact e)
            go_wp2
            go_region
            all_goals go_wp2
            all_goals go_ret
            all_goals exact ⟨by rw [unhide HR]; rfl, (unhide HB2).drew⟩
        · have hkz : ¬ (k : Int) < (i : Int) := by omega
          have hki : k = i := by omega
          have HB2 := hide hb2
          clear hb2
          have htk : l.take (i + 1) = l.take i ++ [x] := by rw [List.take_add_one, unhide HX]; rfl
          have HA2 : Hid ((l.take (i + 1)).all okAttr = true) := hide (by rw [htk, List.all_append, unhide HALL]; simp [unhide HOK])
          have HN2 : Hid ((nm (l.take (i + 1))).Nodup) := hide (by
            rw [htk]
            unfold nm
            rw [List.map_append]
            refine List.nodup_append.2 ⟨unhide HND, by simp, fun p hp r hr e => ?_⟩
            subst e
            obtain ⟨y, hy, rfl⟩ := List.mem_map.1 hp
            obtain ⟨j, hj⟩ := List.getElem?_of_mem hy
            rw [List.getElem?_take] at hj
            split at hj
            · exact (unhide HNE) j y (by omega) hj (by simpa using hr)
            · cases hj)
          clear htk
          go_wp2
          go_roundg (l.length - (i + 1))
          case measure => omega
          case rel => exact ⟨i + 1, by omega, by go_num, unhide HB2, unhide HA2, unhide HN2⟩
    · obtain rfl : i = l.length := by omega
      have hiz : ¬ (l.length : Int) < (l.length : Int) := by omega
      rw [List.take_length] at hall hnd
      have HR : Hid (q = true) := hide (by rw [← unhide HQ]; unfold attrsOk; rw [hall]; simp; exact hnd)
      have HB := hide hb
      clear hb hall hnd
      go_wp2
      go_ret
      exact ⟨by rw [unhide HR]; rfl, unhide HB⟩
end Go.Proofs.YtmnmaenmoaehlaaGreatDoor
