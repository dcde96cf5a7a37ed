import Derived.Test.YtkakncngkmoegaaGreatZHa
import Derived.Test.YtkakncngkmoegaaGreatTZbd
/-
  Run where F is closed alone: with an arena, a stack and a list, and others beside.
-/
namespace Go.Proofs.YtkakncngkmoegaaGreat
open Go.RowKit Go.Sort

section
variable {w wx : World} {bA bK bL : Nat} {os : List OneM} {L : List Int} {es : List EntM} {tail : List (Ob w.heap.size)} {n : Nat}
theorem AE.make (h : Env w wx (aO _ bA os :: stOb _ bK bA (keysO os) L :: liOb _ bL bA es :: tail)) (fo : Bool) : AE w (wx.alloc (.cells #[.pointer (some ⟨bA, 0, none⟩), .pointer (some ⟨bK, 0, none⟩), .pointer (some ⟨bL, 0, none⟩), .bool fo, .bool false, .int .i64 0, .int .i64 0, .slice none 0 0] 86)) ⟨bA, bK, bL, wx.heap.size, fo⟩ ⟨os, L, es, 0⟩ ⟨false, 0, 0⟩ tail := by
  have h2 := h.add (below_newAc wx (.cells #[.pointer (some ⟨bA, 0, none⟩), .pointer (some ⟨bK, 0, none⟩), .pointer (some ⟨bL, 0, none⟩), .bool fo, .bool false, .int .i64 0, .int .i64 0, .slice none 0 0] 86)) (o := agOb _ ⟨bA, bK, bL, wx.heap.size, fo⟩ 0 ⟨false, 0, 0⟩) (F := footG wx.heap.size (.slice none 0 0)) ⟨.slice none 0 0, ⟨heap_alloc_new wx _, ⟨0, [], World.ownsRow_nil _ _ _ _, Nat.le_refl _⟩, h.bel.size⟩, fun _ => Iff.rfl⟩ (fun k hk => by
    rcases hk with rfl | hk
    · exact Nat.le_refl _
    · simp [Value.ownBlock] at hk)
  refine h2.pick _ (0 :: 1 :: 2 :: (tail.length + 3) :: List.range' 3 tail.length) ?_ (fun i o hi => ?_)
  · refine List.nodup_cons.2 ⟨?_, List.nodup_cons.2 ⟨?_, List.nodup_cons.2 ⟨?_, List.nodup_cons.2 ⟨?_, List.nodup_range'⟩⟩⟩⟩ <;> simp only [List.mem_cons, List.mem_range'_1] <;> omega
  · match i, hi with
    | 0, hi => exact ⟨0, rfl, hi⟩
    | 1, hi => exact ⟨1, rfl, hi⟩
    | 2, hi => exact ⟨2, rfl, hi⟩
    | 3, hi => exact ⟨tail.length + 3, rfl, by rw [← hi]; simp⟩
    | k + 4, hi =>
      have hi2 : tail[k]? = some o := hi
      have hlt := (List.getElem?_eq_some_iff.1 hi2).1
      refine ⟨3 + k, ?_, ?_⟩
      · show (List.range' 3 tail.length)[k]? = some (3 + k)
        rw [List.getElem?_range' hlt]
        simp
      · rw [show 3 + k = k + 3 by omega]
        show (tail ++ [_])[k]? = some o
        rw [List.getElem?_append_left hlt]
        exact hi2
theorem AE.unmake {P : Pt} {s : St} {c : Ct} (h : AE w wx P s c tail) : Env w wx (aO _ P.bA s.os :: stOb _ P.bK P.bA (keysO s.os) s.L :: liOb _ P.bL P.bA s.es :: tail) := by
  refine Env.pick h _ (0 :: 1 :: 2 :: List.range' 4 tail.length) ?_ (fun i o hi => ?_)
  · refine List.nodup_cons.2 ⟨?_, List.nodup_cons.2 ⟨?_, List.nodup_cons.2 ⟨?_, List.nodup_range'⟩⟩⟩ <;> simp only [List.mem_cons, List.mem_range'_1] <;> omega
  · match i, hi with
    | 0, hi => exact ⟨0, rfl, hi⟩
    | 1, hi => exact ⟨1, rfl, hi⟩
    | 2, hi => exact ⟨2, rfl, hi⟩
    | k + 3, hi =>
      have hi2 : tail[k]? = some o := hi
      have hlt := (List.getElem?_eq_some_iff.1 hi2).1
      refine ⟨4 + k, ?_, ?_⟩
      · show (List.range' 4 tail.length)[k]? = some (4 + k)
        rw [List.getElem?_range' hlt]
        simp
      · rw [show 4 + k = k + 4 by omega]
        exact hi2
theorem placeE_none (es : List EntM) : placeE es (-1) < 0 := by
  by_cases h : 0 ≤ placeE es (-1)
  · obtain ⟨_, _, _, _, _, e⟩ := place_at h
    exact absurd rfl e
  · omega
theorem gmadeL (h : Env w wx (aO _ bA os :: stOb _ bK bA (keysO os) L :: liOb _ bL bA es :: tail)) (hl : es.length < 1000000000000) : Calls Tryz.prog 36 #[.pointer (some ⟨bL, 0, none⟩)] wx fun e w' => e = .returned (.bool true) ∧ Env w w' (aO _ bA os :: stOb _ bK bA (keysO os) L :: liOb _ bL bA es :: tail) := by
  have h6 : remA es (-1) = 6 := by unfold remA; rw [if_neg (by have := placeE_none es; omega)]
  have hd : delE es (placeE es (-1)) = es := by unfold delE; rw [if_neg (by have := placeE_none es; omega)]
  have hr := env_lremove (j := 2) h rfl hl (-1)
  rw [h6, hd] at hr
  have HR := hide hr
  clear h hl h6 hd hr
  go_enter Tryz.func36, Tryz.ntmps36
  go_wp2_with (go_at_call 82; refine (unhide HR).mono ?_; rintro e w1 ⟨rfl, he⟩; have HE := hide he; clear he)
  go_ret
  exact ⟨rfl, unhide HE⟩
end
end Go.Proofs.YtkakncngkmoegaaGreat
