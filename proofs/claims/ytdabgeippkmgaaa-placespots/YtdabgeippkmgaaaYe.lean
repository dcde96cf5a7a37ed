import Derived.Test.YtdabgeippkmgaaaYd
/-
  Package place: Spot without foster parents.
-/
namespace Go.Proofs.Ytdabgeippkmgaaa
open Go.RowKit

section
variable {w wx : World} {obs : List (Ob w.heap.size)} {i j bA bR bK bW : Nat} {os : List OneM} {L : List Int}
set_option maxHeartbeats 1000000 in
set_option maxRecDepth 100000 in
theorem spot_plain (h : Env w wx obs) (hi : obs[i]? = some (aO _ bA os)) (hj : obs[j]? = some (stOb _ bK bA L)) (hij : i ≠ j) (hg : Good (keysO os) L) {k : Nat} {o : OneM} (ho : os[k]? = some o) :
    Calls Try.prog 35 #[.pointer (some ⟨bA, 0, none⟩), .pointer (some ⟨bK, 0, none⟩), .int .i64 k, .bool false] wx fun e w' => e = .returned (.tuple #[if isOfO o [tmplB] then spotV o.inner (-1) else spotV k (-1), .int .i64 0]) ∧ Env w w' obs := by
  have HE := hide h
  have HA := hide (fun W (hW : Env w W obs) => amadeA hW hi)
  have HS := hide (fun W (hW : Env w W obs) => amadeS hW hi hj hij hg)
  have HT := hide (fun W (hW : Env w W obs) ob x => athere1b hW hi ob x)
  have HO := hide (fun W (hW : Env w W obs) => out_any hW hi ho (-1))
  have HY := hide (hasO_of ho)
  have HAT := hide (fun (W : World) (x : Int) => atEnd_any W x)
  obtain ⟨sa, sb, hsp⟩ : ∃ sa sb, (if isOfO o [tmplB] then spotV o.inner (-1) else spotV k (-1)) = spotV sa sb := by
    split
    · exact ⟨_, _, rfl⟩
    · exact ⟨_, _, rfl⟩
  rw [hsp] at HO ⊢
  clear h hi hj hg ho hsp
  unfold spotV at HO HAT ⊢
  go_enter Try.func35, Try.ntmps35
  go_wp2_with (first
    | (go_at_call 105; refine ((unhide HA) _ ((unhide HE).more (below_new _ _))).mono ?_; rintro e w1 ⟨rfl, rfl⟩)
    | (go_at_call 106; refine ((unhide HS) _ ((unhide HE).more (below_new _ _))).mono ?_; rintro e w2 ⟨rfl, rfl⟩)
    | (go_at_call 107; refine ((unhide HT) _ (unhide HE) _ _).mono ?_; rintro e w3 ⟨rfl, rfl⟩; rw [unhide HY])
    | (go_at_call 108; refine ((unhide HAT) _ _).mono ?_; rintro e w4 ⟨rfl, hb4⟩; have HS4 := hide (((Sp.new wx 0 0).alloc _).more hb4); clear hb4)
    | (go_at_call 111; refine ((unhide HO) _ ((unhide HE).more ((unhide HS4).alloc _).bel)).mono ?_; rintro e w5 ⟨rfl, hb5⟩; have HS5 := hide (((unhide HS4).alloc _).more hb5); obtain ⟨k0, k1, f0, f1⟩ := (unhide HS5).cells; clear hb5))
  have R := (unhide HS5).put sa sb
  exact bodyPost_ret (spot_ret (p := 8) (u := 9) Try.results35 (b := wx.heap.size) R.box _ _ rfl rfl) rfl ⟨rfl, (unhide HE).more R.bel⟩
end
end Go.Proofs.Ytdabgeippkmgaaa
