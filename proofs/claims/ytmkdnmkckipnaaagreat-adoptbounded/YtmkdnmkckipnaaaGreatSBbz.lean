/-
   
-/
import Derived.Test.YtmkdnmkckipnaaaGreatSBbq
import Derived.Test.YtmkdnmkckipnaaaGreatSBbx
import Derived.Test.YtmkdnmkckipnaaaGreatSBby
namespace Go.Proofs.YtmkdnmkckipnaaaGreat
open Go.RowKit Go.Sort

section
variable {w wx : World} {obs : List (Ob w.heap.size)} {i j bA bK bL : Nat} {os : List OneM} {L : List Int}
theorem gmadeA_nil (w : World) : Calls Tryz.prog 34 #[.pointer none] w fun e w' => e = .returned (.bool false) ∧ w = w' := by
  have HL := hide (len_nil w)
  go_enter Tryz.func34, Tryz.ntmps34
  go_wp2_with (go_at_call 12; refine (unhide HL).mono ?_; rintro e w' ⟨rfl, rfl⟩)
  go_ret
  exact ⟨rfl, rfl⟩
theorem gmadeS_nil (w : World) : Calls Tryz.prog 35 #[.pointer none] w fun e w' => e = .returned (.bool false) ∧ w = w' := by
  have HL := hide (remove_nil w (-1))
  go_enter Tryz.func35, Tryz.ntmps35
  go_wp2_with (go_at_call 81; refine (unhide HL).mono ?_; rintro e w' ⟨rfl, rfl⟩)
  go_ret
  exact ⟨rfl, rfl⟩
theorem gmadeL_nil (w : World) : Calls Tryz.prog 36 #[.pointer none] w fun e w' => e = .returned (.bool false) ∧ w = w' := by
  have HL := hide (remove_d (w := w) (v := .pointer none) (.inl rfl) (-1))
  go_enter Tryz.func36, Tryz.ntmps36
  go_wp2_with (go_at_call 82; refine (unhide HL).mono ?_; rintro e w' ⟨rfl, rfl⟩)
  go_ret
  exact ⟨rfl, rfl⟩
theorem gmadeA (h : Env w wx obs) (hi : obs[i]? = some (aO _ bA os)) : Calls Tryz.prog 34 #[.pointer (some ⟨bA, 0, none⟩)] wx fun e w' => e = .returned (.bool true) ∧ wx = w' := by
  have hm := (h.mostA hi).2
  have HL := hide (alen_any h hi)
  have h1 : ((os.length : Int) != 0) = true := by rw [bne_iff_ne]; omega
  have h2 : ¬ ((os.length : Int) = 0) := by omega
  clear h hi hm
  go_enter Tryz.func34, Tryz.ntmps34
  go_wp2_with (go_at_call 12; refine (unhide HL).mono ?_; rintro e w' ⟨rfl, rfl⟩)
  go_ret
  exact ⟨rfl, rfl⟩
theorem gmadeS (h : Env w wx obs) (hi : obs[i]? = some (aO _ bA os)) (hj : obs[j]? = some (stOb _ bK bA L)) (hij : i ≠ j) (hg : Good (keysO os) L) : Calls Tryz.prog 35 #[.pointer (some ⟨bK, 0, none⟩)] wx fun e w' => e = .returned (.bool true) ∧ wx = w' := by
  have hno : (-1 : Int) ∉ L := fun hx => by have := hg.pos hx; omega
  obtain ⟨FA, F, h1, h2, _⟩ := h.as hi hj hij
  have HR := hide (sremove_no h2 (by have := (Live.mk' h1 h2).few hg; omega) hg.nodup hno)
  clear h hi hj hg hno h1 h2
  go_enter Tryz.func35, Tryz.ntmps35
  go_wp2_with (go_at_call 81; refine (unhide HR).mono ?_; rintro e w' ⟨rfl, rfl⟩)
  go_ret
  exact ⟨rfl, rfl⟩
theorem run_noA (w : World) (sv lv : Value) (nm : ByteArray) (f : Bool) : Calls Tryz.prog 8 #[.pointer none, sv, lv, .string nm, .bool f] w fun e w' => e = .returned (.tuple #[.bool false, .int .i64 0, .int .i64 7]) ∧ w = w' := by
  have HA := hide (fun w => gmadeA_nil w)
  go_enter Tryz.func8, Tryz.ntmps8
  go_wp2_with (go_at_call 34; refine ((unhide HA) _).mono ?_; rintro e w' ⟨rfl, rfl⟩)
  go_ret3
  exact ⟨rfl, rfl⟩
theorem run_noS (h : Env w wx obs) (hi : obs[i]? = some (aO _ bA os)) (lv : Value) (nm : ByteArray) (f : Bool) : Calls Tryz.prog 8 #[.pointer (some ⟨bA, 0, none⟩), .pointer none, lv, .string nm, .bool f] wx fun e w' => e = .returned (.tuple #[.bool false, .int .i64 0, .int .i64 7]) ∧ wx = w' := by
  have HA := hide (gmadeA h hi)
  have HS := hide (fun w => gmadeS_nil w)
  clear h hi
  go_enter Tryz.func8, Tryz.ntmps8
  go_wp2_with (first | (go_at_call 34; refine (unhide HA).mono ?_; rintro e w' ⟨rfl, rfl⟩) | (go_at_call 35; refine ((unhide HS) _).mono ?_; rintro e w' ⟨rfl, rfl⟩))
  go_ret3
  exact ⟨rfl, rfl⟩
theorem run_noL (h : Env w wx obs) (hi : obs[i]? = some (aO _ bA os)) (hj : obs[j]? = some (stOb _ bK bA L)) (hij : i ≠ j) (hg : Good (keysO os) L) (nm : ByteArray) (f : Bool) : Calls Tryz.prog 8 #[.pointer (some ⟨bA, 0, none⟩), .pointer (some ⟨bK, 0, none⟩), .pointer none, .string nm, .bool f] wx fun e w' => e = .returned (.tuple #[.bool false, .int .i64 0, .int .i64 7]) ∧ wx = w' := by
  have HA := hide (gmadeA h hi)
  have HS := hide (gmadeS h hi hj hij hg)
  have HL := hide (fun w => gmadeL_nil w)
  clear h hi hj hg
  go_enter Tryz.func8, Tryz.ntmps8
  go_wp2_with (first | (go_at_call 34; refine (unhide HA).mono ?_; rintro e w' ⟨rfl, rfl⟩) | (go_at_call 35; refine (unhide HS).mono ?_; rintro e w' ⟨rfl, rfl⟩) | (go_at_call 36; refine ((unhide HL) _).mono ?_; rintro e w' ⟨rfl, rfl⟩))
  go_ret3
  exact ⟨rfl, rfl⟩
end
set_option maxHeartbeats 1000000 in
set_option maxRecDepth 20000 in
theorem azero_walk (nm : ByteArray) (w : World) : Calls Tryz.prog 6 #[.string nm] w fun e w' => e = .returned (.bool true) ∧ Below w.heap.size w w' := by
  have HB := hide (build_nil w)
  unfold ptr3 at HB
  have HNA := hide (fun w sv lv nm f => run_noA w sv lv nm f)
  go_enter Tryz.func6, Tryz.ntmps6
  go_wp2_with (first
    | (go_at_call 7; refine (unhide HB).mono ?_; rintro e w1 ⟨bA, bK, bL, bR, bW, bQ, rfl, he⟩; have he2 := (he.boxed #[.pointer (some ⟨bA, 0, none⟩), .pointer (some ⟨bK, 0, none⟩), .pointer (some ⟨bL, 0, none⟩)] 28).boxed #[.pointer (some ⟨bR, 0, none⟩), .pointer (some ⟨bW, 0, none⟩), .pointer (some ⟨bQ, 0, none⟩)] 33; have HE := hide he2; have HM1 := hide (run_noS (i := 0) he2 rfl (.pointer (some ⟨bL, 0, none⟩)) nm true); have HM2 := hide (run_noL (i := 0) (j := 1) he2 rfl rfl (by decide) (Good.nil _) nm true); clear he he2)
    | (go_at_call 8; have _x := unhide MK2; refine (unhide HM2).mono ?_; rintro e w' ⟨rfl, rfl⟩)
    | (go_at_call 8; have _x := unhide MK1; refine (unhide HM1).mono ?_; rintro e w' ⟨rfl, rfl⟩; have MK2 := hide trivial)
    | (go_at_call 8; refine ((unhide HNA) _ _ _ _ _).mono ?_; rintro e w' ⟨rfl, rfl⟩; have MK1 := hide trivial))
  go_ret
  exact ⟨rfl, (unhide HE).bel⟩
end Go.Proofs.YtmkdnmkckipnaaaGreat

namespace Go.Proofs.YtmkdnmkckipnaaaGreat
open Go.RowKit Go.Sort

section
variable {w wx : World} {bA bK bL : Nat} {os : List OneM} {L : List Int} {es : List EntM} {tail : List (Ob w.heap.size)} {n : Nat}
theorem AE.make (h : Env w wx (aO _ bA os :: stOb _ bK bA L :: liOb _ bL bA es :: tail)) (fo : Bool) : AE w (wx.alloc (.cells #[.pointer (some ⟨bA, 0, none⟩), .pointer (some ⟨bK, 0, none⟩), .pointer (some ⟨bL, 0, none⟩), .bool fo, .bool false, .int .i64 0, .int .i64 0, .slice none 0 0] 86)) ⟨bA, bK, bL, wx.heap.size, fo⟩ ⟨os, L, es, 0⟩ ⟨false, 0, 0⟩ tail := by
  have h2 := h.add (below_newAc wx (.cells #[.pointer (some ⟨bA, 0, none⟩), .pointer (some ⟨bK, 0, none⟩), .pointer (some ⟨bL, 0, none⟩), .bool fo, .bool false, .int .i64 0, .int .i64 0, .slice none 0 0] 86)) (o := agOb _ ⟨bA, bK, bL, wx.heap.size, fo⟩ 0 ⟨false, 0, 0⟩) (F := footG wx.heap.size (.slice none 0 0)) ⟨.slice none 0 0, ⟨heap_alloc_new wx _, ⟨0, [], World.ownsRow_nil _ _ _ _, Nat.le_refl _⟩, h.bel.size⟩, fun _ => Iff.rfl⟩ (fun k hk => by
    rcases hk with rfl | hk
    · exact Nat.le_refl _
    · simp [Value.ownBlock] at hk)
  refine h2.pick _ (0 :: 1 :: 2 :: (tail.length + 3) :: List.range' 3 tail.length) ?_ (fun i o hi => ?_)
  · refine List.nodup_cons.2 ⟨?_, List.nodup_cons.2 ⟨?_, List.nodup_cons.2 ⟨?_, List.nodup_cons.2 ⟨?_, List.nodup_range'⟩⟩⟩⟩ <;> simp only [List.mem_cons, List.mem_range'_1] <;> omega
  · match i, hi with
    | 0, hi => exact ⟨0, rfl, hi⟩
    | 1, hi => exact ⟨1, rfl, hi⟩
    | 2, hi => exact ⟨2, rfl, hi⟩
    | 3, hi => exact ⟨tail.length + 3, rfl, by rw [← hi]; simp⟩
    | k + 4, hi =>
      have hi2 : tail[k]? = some o := hi
      have hlt := (List.getElem?_eq_some_iff.1 hi2).1
      refine ⟨3 + k, ?_, ?_⟩
      · show (List.range' 3 tail.length)[k]? = some (3 + k)
        rw [List.getElem?_range' hlt]
        simp
      · rw [show 3 + k = k + 3 by omega]
        show (tail ++ [_])[k]? = some o
        rw [List.getElem?_append_left hlt]
        exact hi2
theorem AE.unmake {P : Pt} {s : St} {c : Ct} (h : AE w wx P s c tail) : Env w wx (aO _ P.bA s.os :: stOb _ P.bK P.bA s.L :: liOb _ P.bL P.bA s.es :: tail) := by
  refine Env.pick h _ (0 :: 1 :: 2 :: List.range' 4 tail.length) ?_ (fun i o hi => ?_)
  · refine List.nodup_cons.2 ⟨?_, List.nodup_cons.2 ⟨?_, List.nodup_cons.2 ⟨?_, List.nodup_range'⟩⟩⟩ <;> simp only [List.mem_cons, List.mem_range'_1] <;> omega
  · match i, hi with
    | 0, hi => exact ⟨0, rfl, hi⟩
    | 1, hi => exact ⟨1, rfl, hi⟩
    | 2, hi => exact ⟨2, rfl, hi⟩
    | k + 3, hi =>
      have hi2 : tail[k]? = some o := hi
      have hlt := (List.getElem?_eq_some_iff.1 hi2).1
      refine ⟨4 + k, ?_, ?_⟩
      · show (List.range' 4 tail.length)[k]? = some (4 + k)
        rw [List.getElem?_range' hlt]
        simp
      · rw [show 4 + k = k + 4 by omega]
        exact hi2
theorem placeE_none (es : List EntM) : placeE es (-1) < 0 := by
  by_cases h : 0 ≤ placeE es (-1)
  · obtain ⟨_, _, _, _, _, e⟩ := place_at h
    exact absurd rfl e
  · omega
theorem gmadeL (h : Env w wx (aO _ bA os :: stOb _ bK bA L :: liOb _ bL bA es :: tail)) (hl : es.length < 1000000000000) : Calls Tryz.prog 36 #[.pointer (some ⟨bL, 0, none⟩)] wx fun e w' => e = .returned (.bool true) ∧ Env w w' (aO _ bA os :: stOb _ bK bA L :: liOb _ bL bA es :: tail) := by
  have h6 : remA es (-1) = 6 := by unfold remA; rw [if_neg (by have := placeE_none es; omega)]
  have hd : delE es (placeE es (-1)) = es := by unfold delE; rw [if_neg (by have := placeE_none es; omega)]
  have hr := env_lremove (j := 2) h rfl hl (-1)
  rw [h6, hd] at hr
  have HR := hide hr
  clear h hl h6 hd hr
  go_enter Tryz.func36, Tryz.ntmps36
  go_wp2_with (go_at_call 82; refine (unhide HR).mono ?_; rintro e w1 ⟨rfl, he⟩; have HE := hide he; clear he)
  go_ret
  exact ⟨rfl, unhide HE⟩
set_option maxHeartbeats 2000000 in
theorem aRun_closed (h : Env w wx (aO _ bA os :: stOb _ bK bA L :: liOb _ bL bA es :: tail)) (hi : Inv ⟨os, L, es, 0⟩ n) (hn : os.length ≤ 32704) (name : ByteArray) (fo : Bool) (f : Int) (hne : L ≠ []) (htn : topN ⟨os, L, es, 0⟩ name = false) (hlast : lastE name es es.length = f) (hf1 : f ≠ -1) (hfind : 0 ≤ findM L f) (hsc : nodeScopeM (keysO os) L f 0 = true) (htop : topM L = f) (hbl : blockP (keysO os) L f = -1) :
    Calls Tryz.prog 8 #[.pointer (some ⟨bA, 0, none⟩), .pointer (some ⟨bK, 0, none⟩), .pointer (some ⟨bL, 0, none⟩), .string name, .bool fo] wx fun e w' => e = .returned (.tuple #[.bool false, .int .i64 0, .int .i64 0]) ∧ Env w w' (aO _ bA os :: stOb _ bK bA (L.take (findM L f).toNat) :: liOb _ bL bA (delE es (placeE es f)) :: tail) := by
  have HA := hide (gmadeA (i := 0) h rfl)
  have HS := hide (gmadeS (i := 0) (j := 1) h rfl rfl (by decide) hi.good)
  have HL := hide (gmadeL h hi.lt12)
  have HLEN := hide (fun W (hW : Env w W (aO _ bA os :: stOb _ bK bA L :: liOb _ bL bA es :: tail)) => alen_any (i := 0) hW rfl)
  have HMK := hide (fun W (hW : Env w W (aO _ bA os :: stOb _ bK bA L :: liOb _ bL bA es :: tail)) => AE.make hW fo)
  have HTP := hide (fun W (P : Pt) (hW : AE w W P ⟨os, L, es, 0⟩ ⟨false, 0, 0⟩ tail) => gtop_any hW hi name hne)
  rw [htn] at HTP
  have HRN := hide (fun W (P : Pt) (hW : AE w W P ⟨os, L, es, 0⟩ ⟨false, 0, 0⟩ tail) => grun_closed hW hi (by show 0 < 1000000000; decide) (by show (0 : Int) ≤ 1000000; decide) name f hlast hf1 hfind hsc htop hbl)
  have HCE := hide (fun W (P : Pt) (s : St) (c : Ct) (hW : AE w W P s c tail) => hW.cells)
  have HUN := hide (fun W (P : Pt) (s : St) (c : Ct) (hW : AE w W P s c tail) => hW.unmake)
  have hnn : ¬ (32704 : Int) < (os.length : Int) := by omega
  generalize hnl : (os.length : Int) = nl at *
  clear h hi hn htn hlast hf1 hfind hsc htop hbl hne hnl
  go_enter Tryz.func8, Tryz.ntmps8
  go_wp2_with (first
    | (go_at_call 34; refine (unhide HA).mono ?_; rintro e w1 ⟨rfl, rfl⟩)
    | (go_at_call 35; refine (unhide HS).mono ?_; rintro e w2 ⟨rfl, rfl⟩)
    | (go_at_call 36; refine (unhide HL).mono ?_; rintro e w3 ⟨rfl, he3⟩; have HE3 := hide he3; clear he3)
    | (go_at_call 12; refine ((unhide HLEN) _ (unhide HE3)).mono ?_; rintro e w4 ⟨rfl, rfl⟩; have HE4 := hide ((unhide HMK) _ (unhide HE3)))
    | (go_at_call 37; refine ((unhide HTP) _ _ (unhide HE4)).mono ?_; rintro e w5 ⟨rfl, he5⟩; have HE5 := hide he5; clear he5)
    | (go_at_call 39; refine ((unhide HRN) _ _ (unhide HE5)).mono ?_; rintro e w6 ⟨rfl, he6⟩; have HE6 := hide he6; obtain ⟨g0, g1, g2, g3, g4, g5, g6⟩ := (unhide HCE) _ _ _ _ he6; clear he6))
  go_region
  all_goals go_wp2
  all_goals go_ret3
  all_goals exact ⟨rfl, ((unhide HUN) _ _ _ _ (unhide HE6)).more (Below.refl _ _).drew⟩
end
end Go.Proofs.YtmkdnmkckipnaaaGreat

namespace Go.Proofs.YtmkdnmkckipnaaaGreat
open Go.RowKit Go.Sort

def topX (s : St) (name : ByteArray) : Bool := decide (s.L ≠ []) && topN s name
/-- What a call of the agency leaves; whether the tag is another one; how many errors. -/
def runP (name : ByteArray) (fo : Bool) (s : St) : St × Bool × Int := if topX s name = true then (⟨s.os, popL s.L, s.es, s.mark⟩, false, 0) else roundsP name fo 8 s 0
section
variable {w wx : World} {P : Pt} {s : St} {c : Ct} {rest : List (Ob w.heap.size)} {n : Nat}
set_option maxHeartbeats 1000000 in
theorem gtop_none (h : AE w wx P s c rest) (hi : Inv s n) (name : ByteArray) (hne : s.L = []) : Calls Tryz.prog 37 #[.pointer (some ⟨P.bG, 0, none⟩), .string name] wx fun e w' => e = .returned (.bool false) ∧ AE w w' P s c rest := by
  have HT := hide (ae_stop h hi)
  have htm : topM s.L = -1 := by rw [hne]; rfl
  rw [htm] at HT
  have HN := hide (fun W (hW : AE w W P s c rest) => ae_node_no hW (k := -1) (by simp [hasO]))
  obtain ⟨g0, g1, g2, _⟩ := h.cells
  have HE := hide h
  clear h hi hne htm
  unfold nodeZ at HN
  go_enter Tryz.func37, Tryz.ntmps37
  go_wp2_with (first
    | (go_at_call 83; refine (unhide HT).mono ?_; rintro e w1 ⟨rfl, rfl⟩)
    | (go_at_call 14; refine ((unhide HN) _ (unhide HE)).mono ?_; rintro e w2 ⟨rfl, he2⟩; have HE2 := hide he2; clear he2))
  go_ret
  exact ⟨rfl, (unhide HE2).more (below_newAc _ _)⟩
theorem gtop_all (h : AE w wx P s c rest) (hi : Inv s n) (name : ByteArray) : Calls Tryz.prog 37 #[.pointer (some ⟨P.bG, 0, none⟩), .string name] wx fun e w' => e = .returned (.bool (topX s name)) ∧ AE w w' P s c rest := by
  by_cases hL : s.L = []
  · have e : topX s name = false := by simp [topX, hL]
    rw [e]
    exact gtop_none h hi name hL
  · have e : topX s name = topN s name := by simp [topX, hL]
    rw [e]
    exact gtop_any h hi name hL
end
section
variable {w wx : World} {bA bK bL : Nat} {os : List OneM} {L : List Int} {es : List EntM} {tail : List (Ob w.heap.size)} {n : Nat}
set_option maxHeartbeats 2000000 in
theorem aRun_any (h : Env w wx (aO _ bA os :: stOb _ bK bA L :: liOb _ bL bA es :: tail)) (hi : Inv ⟨os, L, es, 0⟩ n) (hn : n + 64 ≤ 32768) (name : ByteArray) (fo : Bool) :
    Calls Tryz.prog 8 #[.pointer (some ⟨bA, 0, none⟩), .pointer (some ⟨bK, 0, none⟩), .pointer (some ⟨bL, 0, none⟩), .string name, .bool fo] wx fun e w' => e = .returned (.tuple #[.bool (runP name fo ⟨os, L, es, 0⟩).2.1, .int .i64 (runP name fo ⟨os, L, es, 0⟩).2.2, .int .i64 0]) ∧ Env w w' (aO _ bA (runP name fo ⟨os, L, es, 0⟩).1.os :: stOb _ bK bA (runP name fo ⟨os, L, es, 0⟩).1.L :: liOb _ bL bA (runP name fo ⟨os, L, es, 0⟩).1.es :: tail) := by
  have HA := hide (gmadeA (i := 0) h rfl)
  have HS := hide (gmadeS (i := 0) (j := 1) h rfl rfl (by decide) hi.good)
  have HL := hide (gmadeL h hi.lt12)
  have HLEN := hide (fun W (hW : Env w W (aO _ bA os :: stOb _ bK bA L :: liOb _ bL bA es :: tail)) => alen_any (i := 0) hW rfl)
  have HMK := hide (fun W (hW : Env w W (aO _ bA os :: stOb _ bK bA L :: liOb _ bL bA es :: tail)) => AE.make hW fo)
  have HTP := hide (fun W (P : Pt) (hW : AE w W P ⟨os, L, es, 0⟩ ⟨false, 0, 0⟩ tail) => gtop_all hW hi name)
  have HRN := hide (fun W (P : Pt) (hW : AE w W P ⟨os, L, es, 0⟩ ⟨false, 0, 0⟩ tail) => grun_any hW hi hn (by show 0 < 500000000; decide) (by show (0 : Int) ≤ 1000000; decide) rfl ⟨by show (-1000 : Int) ≤ 0; decide, by show (0 : Int) ≤ 1000; decide⟩ name)
  have HPOP := hide (fun W (P : Pt) (hW : AE w W P ⟨os, L, es, 0⟩ ⟨false, 0, 0⟩ tail) => ae_spop hW hi)
  have HCE := hide (fun W (P : Pt) (s : St) (c : Ct) (hW : AE w W P s c tail) => hW.cells)
  have HUN := hide (fun W (P : Pt) (s : St) (c : Ct) (hW : AE w W P s c tail) => hW.unmake)
  have hnn : ¬ (32704 : Int) < (os.length : Int) := by have := hi.few; simp only at this; omega
  generalize hnl : (os.length : Int) = nl at *
  unfold runP
  clear h hi hn hnl
  cases htx : topX ⟨os, L, es, 0⟩ name with
  | true =>
    rw [htx] at HTP
    simp only [if_true]
    clear htx
    go_enter Tryz.func8, Tryz.ntmps8
    go_wp2_with (first
      | (go_at_call 34; refine (unhide HA).mono ?_; rintro e w1 ⟨rfl, rfl⟩)
      | (go_at_call 35; refine (unhide HS).mono ?_; rintro e w2 ⟨rfl, rfl⟩)
      | (go_at_call 36; refine (unhide HL).mono ?_; rintro e w3 ⟨rfl, he3⟩; have HE3 := hide he3; clear he3)
      | (go_at_call 12; refine ((unhide HLEN) _ (unhide HE3)).mono ?_; rintro e w4 ⟨rfl, rfl⟩; have HE4 := hide ((unhide HMK) _ (unhide HE3)))
      | (go_at_call 37; refine ((unhide HTP) _ _ (unhide HE4)).mono ?_; rintro e w5 ⟨rfl, he5⟩; have HE5 := hide he5; clear he5)
      | (go_at_call 38; refine ((unhide HPOP) _ _ (unhide HE5)).mono ?_; rintro e w6 ⟨rfl, he6⟩; have HE6 := hide he6; clear he6))
    go_ret3
    exact ⟨rfl, (unhide HUN) _ _ _ _ (unhide HE6)⟩
  | false =>
    rw [htx] at HTP
    simp only [Bool.false_eq_true, if_false]
    clear htx
    simp only at HRN
    generalize hR : roundsP name fo 8 ⟨os, L, es, 0⟩ 0 = R at *
    have HRX : Hid (∀ W (P : Pt), P.foster = fo → AE w W P ⟨os, L, es, 0⟩ ⟨false, 0, 0⟩ tail → Calls Tryz.prog 39 #[.pointer (some ⟨P.bG, 0, none⟩), .string name] W fun e w' => e = .returned (.int .i64 0) ∧ AE w w' P R.1 ⟨R.2.1, R.2.2, 0 + 3000000⟩ tail) := hide (fun W P hf hW => by
      have := (unhide HRN) W P hW
      rw [hf, hR] at this
      exact this)
    clear HRN hR
    go_enter Tryz.func8, Tryz.ntmps8
    go_wp2_with (first
      | (go_at_call 34; refine (unhide HA).mono ?_; rintro e w1 ⟨rfl, rfl⟩)
      | (go_at_call 35; refine (unhide HS).mono ?_; rintro e w2 ⟨rfl, rfl⟩)
      | (go_at_call 36; refine (unhide HL).mono ?_; rintro e w3 ⟨rfl, he3⟩; have HE3 := hide he3; clear he3)
      | (go_at_call 12; refine ((unhide HLEN) _ (unhide HE3)).mono ?_; rintro e w4 ⟨rfl, rfl⟩; have HE4 := hide ((unhide HMK) _ (unhide HE3)))
      | (go_at_call 37; refine ((unhide HTP) _ _ (unhide HE4)).mono ?_; rintro e w5 ⟨rfl, he5⟩; have HE5 := hide he5; clear he5)
      | (go_at_call 39; refine ((unhide HRX) _ _ rfl (unhide HE5)).mono ?_; rintro e w6 ⟨rfl, he6⟩; have HE6 := hide he6; obtain ⟨g0, g1, g2, g3, g4, g5, g6⟩ := (unhide HCE) _ _ _ _ he6; clear he6))
    go_region
    all_goals go_wp2
    all_goals go_ret3
    all_goals exact ⟨rfl, ((unhide HUN) _ _ _ _ (unhide HE6)).more (Below.refl _ _).drew⟩
end
/-- What a call of the agency keeps. -/
theorem runP_ok {s : St} {N : Nat} (h : Inv s N) (hN : N + 64 ≤ 32768) (hm : s.mark ≤ 1000000) (name : ByteArray) (fo : Bool) : Inv (runP name fo s).1 (N + 64) ∧ 0 ≤ (runP name fo s).2.2 ∧ (runP name fo s).2.2 ≤ 8 := by
  unfold runP
  split
  · refine ⟨⟨h.good.sub (List.take_sublist _ _), h.ent, by have := h.few; simp only; omega, h.less, h.one⟩, by simp, by simp⟩
  · have := rounds_ok name fo 8 h hN hm 0
    refine ⟨this.1, this.2.1, ?_⟩
    have h2 := this.2.2
    simpa using h2
end Go.Proofs.YtmkdnmkckipnaaaGreat
