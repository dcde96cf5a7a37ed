import Derived.Test.YtkakncngkmoegaaGreatXHa
import Derived.Test.YtkakncngkmoegaaGreatTZbd
/-
  Run where F is closed alone: with an arena, a stack and a list, and others beside.
-/
namespace Go.Proofs.YtkakncngkmoegaaGreat
open Go.RowKit Go.Sort

section
variable {w wx : World} {bA bK bL : Nat} {os : List OneM} {L : List Int} {es : List EntM} {tail : List (Ob w.heap.size)} {n : Nat}
theorem AE.make (h : Env w wx (aO _ bA os :: stOb _ bK bA (keysO os) L :: liOb _ bL bA es :: tail)) (fo : Bool) : AE w (wx.alloc (.cells #[.pointer (some ⟨bA, 0, none⟩), .pointer (some ⟨bK, 0, none⟩), .pointer (some ⟨bL, 0, none⟩), .bool fo, .bool false, .int .i64 0, .int .i64 0, .slice none 0 0] 86)) ⟨bA, bK, bL, wx.heap.size, fo⟩ ⟨os, L, es, 0⟩ ⟨false, 0, 0⟩ tail := by
  have h2 := h.add (below_newAc wx (.cells #[.pointer (some ⟨bA, 0, none⟩), .pointer (some ⟨bK, 0, none⟩), .pointer (some ⟨bL, 0, none⟩), .bool fo, .bool false, .int .i64 0, .int .i64 0, .slice none 0 0] 86)) (o := agOb _ ⟨bA, bK, bL, wx.heap.size, fo⟩ 0 ⟨false, 0, 0⟩) (F := footG wx.heap.size (.slice none 0 0)) ⟨.slice none 0 0, ⟨heap_alloc_new wx _, ⟨0, [], World.ownsRow_nil _ _ _ _, Nat.le_refl _⟩, h.bel.size⟩, fun _ => Iff.rfl⟩ (fun k hk => by
    rcases hk with rfl | hk
    · exact Nat.le_refl _
    · simp [Value.ownBlock] at hk)
  refine h2.pick _ (0 :: 1 :: 2 :: (tail.length + 3) :: List.range' 3 tail.length) ?_ (fun i o hi => ?_)
  · refine List.nodup_cons.2 ⟨?_, List.nodup_cons.2 ⟨?_, List.nodup_cons.2 ⟨?_, List.nodup_cons.2 ⟨?_, List.nodup_range'⟩⟩⟩⟩ <;> simp only [List.mem_cons, List.mem_range'_1] <;> omega
  · match i, hi with
    | 0, hi => exact ⟨0, rfl, hi⟩
    | 1, hi => exact ⟨1, rfl, hi⟩
    | 2, hi => exact ⟨2, rfl, hi⟩
    | 3, hi => exact ⟨tail.length + 3, rfl, by rw [← hi]; simp⟩
    | k + 4, hi =>
      have hi2 : tail[k]? = some o := hi
      have hlt := (List.getElem?_eq_some_iff.1 hi2).1
      refine ⟨3 + k, ?_, ?_⟩
      · show (List.range' 3 tail.length)[k]? = some (3 + k)
        rw [List.getElem?_range' hlt]
        simp
      · rw [show 3 + k = k + 3 by omega]
        show (tail ++ [_])[k]? = some o
        rw [List.getElem?_append_left hlt]
        exact hi2
theorem AE.unmake {P : Pt} {s : St} {c : Ct} (h : AE w wx P s c tail) : Env w wx (aO _ P.bA s.os :: stOb _ P.bK P.bA (keysO s.os) s.L :: liOb _ P.bL P.bA s.es :: tail) := by
  refine Env.pick h _ (0 :: 1 :: 2 :: List.range' 4 tail.length) ?_ (fun i o hi => ?_)
  · refine List.nodup_cons.2 ⟨?_, List.nodup_cons.2 ⟨?_, List.nodup_cons.2 ⟨?_, List.nodup_range'⟩⟩⟩ <;> simp only [List.mem_cons, List.mem_range'_1] <;> omega
  · match i, hi with
    | 0, hi => exact ⟨0, rfl, hi⟩
    | 1, hi => exact ⟨1, rfl, hi⟩
    | 2, hi => exact ⟨2, rfl, hi⟩
    | k + 3, hi =>
      have hi2 : tail[k]? = some o := hi
      have hlt := (List.getElem?_eq_some_iff.1 hi2).1
      refine ⟨4 + k, ?_, ?_⟩
      · show (List.range' 4 tail.length)[k]? = some (4 + k)
        rw [List.getElem?_range' hlt]
        simp
      · rw [show 4 + k = k + 4 by omega]
        exact hi2
theorem placeE_none (es : List EntM) : placeE es (-1) < 0 := by
  by_cases h : 0 ≤ placeE es (-1)
  · obtain ⟨_, _, _, _, _, e⟩ := place_at h
    exact absurd rfl e
  · omega
theorem gmadeL (h : Env w wx (aO _ bA os :: stOb _ bK bA (keysO os) L :: liOb _ bL bA es :: tail)) (hl : es.length < 1000000000000) : Calls Tryz.prog 36 #[.pointer (some ⟨bL, 0, none⟩)] wx fun e w' => e = .returned (.bool true) ∧ Env w w' (aO _ bA os :: stOb _ bK bA (keysO os) L :: liOb _ bL bA es :: tail) := by
  have h6 : remA es (-1) = 6 := by unfold remA; rw [if_neg (by have := placeE_none es; omega)]
  have hd : delE es (placeE es (-1)) = es := by unfold delE; rw [if_neg (by have := placeE_none es; omega)]
  have hr := env_lremove (j := 2) h rfl hl (-1)
  rw [h6, hd] at hr
  have HR := hide hr
  clear h hl h6 hd hr
  go_enter Tryz.func36, Tryz.ntmps36
  go_wp2_with (go_at_call 82; refine (unhide HR).mono ?_; rintro e w1 ⟨rfl, he⟩; have HE := hide he; clear he)
  go_ret
  exact ⟨rfl, unhide HE⟩
set_option maxHeartbeats 2000000 in
theorem aRun_closed (h : Env w wx (aO _ bA os :: stOb _ bK bA (keysO os) L :: liOb _ bL bA es :: tail)) (hi : Inv ⟨os, L, es, 0⟩ n) (hn : os.length ≤ 32704) (name : ByteArray) (fo : Bool) (f : Int) (hne : L ≠ []) (htn : topN ⟨os, L, es, 0⟩ name = false) (hlast : lastE name es es.length = f) (hf1 : f ≠ -1) (hfind : 0 ≤ findM L f) (hsc : nodeScopeM (keysO os) L f 0 = true) (htop : topM L = f) (hbl : blockP (keysO os) L f = -1) :
    Calls Tryz.prog 8 #[.pointer (some ⟨bA, 0, none⟩), .pointer (some ⟨bK, 0, none⟩), .pointer (some ⟨bL, 0, none⟩), .string name, .bool fo] wx fun e w' => e = .returned (.tuple #[.bool false, .int .i64 0, .int .i64 0]) ∧ Env w w' (aO _ bA os :: stOb _ bK bA (keysO os) (L.take (findM L f).toNat) :: liOb _ bL bA (delE es (placeE es f)) :: tail) := by
  have HA := hide (gmadeA (i := 0) h rfl)
  have HS := hide (gmadeS (i := 0) (j := 1) h rfl rfl (by decide) hi.good)
  have HL := hide (gmadeL h hi.lt12)
  have HLEN := hide (fun W (hW : Env w W (aO _ bA os :: stOb _ bK bA (keysO os) L :: liOb _ bL bA es :: tail)) => alen_any (i := 0) hW rfl)
  have HMK := hide (fun W (hW : Env w W (aO _ bA os :: stOb _ bK bA (keysO os) L :: liOb _ bL bA es :: tail)) => AE.make hW fo)
  have HTP := hide (fun W (P : Pt) (hW : AE w W P ⟨os, L, es, 0⟩ ⟨false, 0, 0⟩ tail) => gtop_any hW hi name hne)
  rw [htn] at HTP
  have HRN := hide (fun W (P : Pt) (hW : AE w W P ⟨os, L, es, 0⟩ ⟨false, 0, 0⟩ tail) => grun_closed hW hi (by show 0 < 1000000000; decide) (by show (0 : Int) ≤ 1000000; decide) name f hlast hf1 hfind hsc htop hbl)
  have HCE := hide (fun W (P : Pt) (s : St) (c : Ct) (hW : AE w W P s c tail) => hW.cells)
  have HUN := hide (fun W (P : Pt) (s : St) (c : Ct) (hW : AE w W P s c tail) => hW.unmake)
  have hnn : ¬ (32704 : Int) < (os.length : Int) := by omega
  generalize hnl : (os.length : Int) = nl at *
  clear h hi hn htn hlast hf1 hfind hsc htop hbl hne hnl
  go_enter Tryz.func8, Tryz.ntmps8
  go_wp2_with (first
    | (go_at_call 34; refine (unhide HA).mono ?_; rintro e w1 ⟨rfl, rfl⟩)
    | (go_at_call 35; refine (unhide HS).mono ?_; rintro e w2 ⟨rfl, rfl⟩)
    | (go_at_call 36; refine (unhide HL).mono ?_; rintro e w3 ⟨rfl, he3⟩; have HE3 := hide he3; clear he3)
    | (go_at_call 12; refine ((unhide HLEN) _ (unhide HE3)).mono ?_; rintro e w4 ⟨rfl, rfl⟩; have HE4 := hide ((unhide HMK) _ (unhide HE3)))
    | (go_at_call 37; refine ((unhide HTP) _ _ (unhide HE4)).mono ?_; rintro e w5 ⟨rfl, he5⟩; have HE5 := hide he5; clear he5)
    | (go_at_call 39; refine ((unhide HRN) _ _ (unhide HE5)).mono ?_; rintro e w6 ⟨rfl, he6⟩; have HE6 := hide he6; obtain ⟨g0, g1, g2, g3, g4, g5, g6⟩ := (unhide HCE) _ _ _ _ he6; clear he6))
  go_region
  all_goals go_wp2
  all_goals go_ret3
  all_goals exact ⟨rfl, ((unhide HUN) _ _ _ _ (unhide HE6)).more (Below.refl _ _).drew⟩
end
end Go.Proofs.YtkakncngkmoegaaGreat
