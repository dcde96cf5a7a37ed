import Derived.Test.YtgmlngmfocdmhaaYe
/-
  Package place: Spot of what is no node; Put at a node's end.
-/
namespace Go.Proofs.Ytgmlngmfocdmhaa
open Go.RowKit

section
variable {w wx : World} {obs : List (Ob w.heap.size)} {i j bA bR bK bW : Nat} {os : List OneM} {L : List Int}
set_option maxRecDepth 100000 in
theorem placeThere_end (h : Env w wx obs) (hi : obs[i]? = some (aO _ bA os)) (p : Int) :
    Calls Try.prog 17 #[.pointer (some ⟨bA, 0, none⟩), spotV p (-1)] wx fun e w' => e = .returned (.bool (hasO os p)) ∧ Below wx.heap.size wx w' := by
  have HE := hide h
  have HT := hide (fun W (hW : Env w W obs) ob x => athere1b hW hi ob x)
  clear h hi
  unfold spotV
  go_enter Try.func17, Try.ntmps17
  go_wp2_with (first
    | (go_at_call 27; refine ((unhide HT) _ (unhide HE) _ _).mono ?_; rintro e w3 ⟨rfl, rfl⟩))
  go_ret
  exact ⟨rfl, (below_new _ _).alloc (by simp) _⟩

set_option maxRecDepth 100000 in
theorem asItIs_end (h : Env w wx obs) (hi : obs[i]? = some (aO _ bA os)) (p : Int) :
    Calls Try.prog 20 #[.pointer (some ⟨bA, 0, none⟩), spotV p (-1)] wx fun e w' => e = .returned (spotV p (-1)) ∧ Below wx.heap.size wx w' := by
  have HE := hide h
  have HN := hide (fun W (hW : Env w W obs) => anode_no hW hi (k := -1) (by simp [hasO]))
  have HAT := hide (fun (W : World) (x : Int) => atEnd_any W x)
  unfold nodeZ at HN
  clear h hi
  unfold spotV at HAT ⊢
  go_enter Try.func20, Try.ntmps20
  go_wp2_with (first
    | (go_at_call 9; refine ((unhide HN) _ ((unhide HE).more (two_boxes (Below.refl _ _)).2.2)).mono ?_; rintro e w4 ⟨rfl, hb4⟩; obtain ⟨b1, b2, b3⟩ := two_boxes hb4; have HB1 := hide (Sp.mk b3 (Nat.le_refl _) b1); have HB2 := hide (show Sp wx w4 (wx.heap.size + 1) 0 0 from ⟨b3, Nat.le_succ _, b2⟩); clear hb4 b1 b2 b3; obtain ⟨l0, l1, m0, m1⟩ := (unhide HB1).cells; obtain ⟨z0, z1, z2, z3⟩ := ((unhide HB1).alloc (.cells #[.int .i64 0, .int .i64 0, .string ⟨#[]⟩, .slice none 0 0, .string ⟨#[]⟩, .string ⟨#[]⟩, .int .i64 0, .int .i64 0, .int .i64 0, .int .i64 0, .int .i64 0, .int .i64 0] 37)).cells)
    | (go_at_call 29; refine ((unhide HAT) _ _).mono ?_; rintro e w5 ⟨rfl, hb5⟩; have HS5 := hide (((unhide HB2).alloc _).more hb5); clear z0 z1 z2 z3 l0 l1 m0 m1; obtain ⟨k0, k1, f0, f1⟩ := (unhide HS5).cells; clear hb5))
  have R := (unhide HS5).put p (-1)
  exact bodyPost_ret (spot_ret1 (p := 4) Try.results20 (b := wx.heap.size + 1) R.box _ rfl) rfl ⟨rfl, R.bel⟩

theorem Env.poke2 (h : Env w wx obs) {K : Nat} {p q : Int} (hi : obs[i]? = some (blkOb _ K #[.int .i64 p, .int .i64 q] 29)) (x y : Int) :
    Env w ((wx.setCell ⟨K, 0, none⟩ (.int .i64 x)).setCell ⟨K, 1, none⟩ (.int .i64 y)) (obs.set i (blkOb _ K #[.int .i64 x, .int .i64 y] 29)) := by
  obtain ⟨F, ⟨hb, hblk, hF⟩, _, hk⟩ := h.upd hi
  exact hk _ (blkOb _ K _ _) F ⟨hb, two_block _ _ _ _ _ _ _ hblk, hF⟩ ((Mod.setCell (F := F) wx ⟨K, 0, none⟩ _ ((hF K).2 rfl)).trans (Mod.setCell _ ⟨K, 1, none⟩ _ ((hF K).2 rfl))) (fun k hk => .inl hk)

theorem put_take (obs : List (Ob w.heap.size)) (b : Ob w.heap.size) (hlt : i < obs.length) (x y : Ob w.heap.size) (z : Ob w.heap.size) : ((((obs ++ [b]).set i x).set obs.length z).set i y).take obs.length = obs.set i y := by
  refine List.ext_getElem? fun k => ?_
  rw [List.getElem?_take]
  by_cases hk : k < obs.length
  · rw [if_pos hk]
    simp only [List.getElem?_set, List.length_set, List.length_append, List.length_cons, List.length_nil]
    by_cases hik : i = k
    · subst hik
      simp [hlt, Nat.lt_succ_of_lt hlt]
    · rw [if_neg hik, if_neg (by omega), if_neg hik, if_neg hik, List.getElem?_append_left hk]
  · rw [if_neg hk]
    have : (obs.set i y)[k]? = none := by rw [List.getElem?_eq_none_iff]; simp; omega
    rw [this]

/-- What Put at a node's end answers. -/
def endE (os : List OneM) (p id : Int) : Int := if linkE (unlinkR os id) p id (-1) = 0 then 0 else 11

set_option maxHeartbeats 1000000 in
set_option maxRecDepth 100000 in
theorem put_end (h : Env w wx obs) (hi : obs[i]? = some (aO _ bA os)) (p id : Int) (hp : hasO os p = true) (hid : hasO os id = true) :
    Calls Try.prog 32 #[.pointer (some ⟨bA, 0, none⟩), spotV p (-1), .int .i64 id] wx fun e w' => e = .returned (.int .i64 (endE os p id)) ∧ Env w w' (obs.set i (aO _ bA (linkR (unlinkR os id) p id (-1)))) := by
  have hlt : i < obs.length := (List.getElem?_eq_some_iff.1 hi).1
  have hB := h.boxed #[.int .i64 p, .int .i64 (-1)] 29
  have hi1 : (obs ++ [blkOb _ wx.heap.size #[.int .i64 p, .int .i64 (-1)] 29])[i]? = some (aO _ bA os) := by rw [List.getElem?_append_left hlt]; exact hi
  have hK1 : (obs ++ [blkOb _ wx.heap.size #[.int .i64 p, .int .i64 (-1)] 29])[obs.length]? = some (blkOb _ wx.heap.size #[.int .i64 p, .int .i64 (-1)] 29) := by simp
  have hfin := put_take obs (blkOb _ wx.heap.size #[.int .i64 p, .int .i64 (-1)] 29) hlt (aO _ bA (unlinkR os id)) (aO _ bA (linkR (unlinkR os id) p id (-1))) (blkOb _ wx.heap.size #[.int .i64 p, .int .i64 (-1)] 29)
  have HT := hide (athere1b h hi (.cells #[.int .i64 p, .int .i64 (-1)] 29) id)
  rw [hid] at HT
  generalize hobs1 : obs ++ [blkOb _ wx.heap.size #[.int .i64 p, .int .i64 (-1)] 29] = obs1 at *
  have hlen1 : obs1.length = obs.length + 1 := by rw [← hobs1]; simp
  have hi2 : (obs1.set i (aO _ bA (unlinkR os id)))[i]? = some (aO _ bA (unlinkR os id)) := by rw [List.getElem?_set_self (by omega)]
  have hK2 : (obs1.set i (aO _ bA (unlinkR os id)))[obs.length]? = some (blkOb _ wx.heap.size #[.int .i64 p, .int .i64 (-1)] 29) := by rw [List.getElem?_set_ne (by omega)]; exact hK1
  have hi3 : ((obs1.set i (aO _ bA (unlinkR os id))).set obs.length (blkOb _ wx.heap.size #[.int .i64 p, .int .i64 (-1)] 29))[i]? = some (aO _ bA (unlinkR os id)) := by rw [List.getElem?_set_ne (by omega)]; exact hi2
  have HB := hide hB
  have HA := hide (fun W (hW : Env w W obs1) => amadeA hW hi1)
  have HP := hide (fun W (hW : Env w W obs1) => placeThere_end hW hi1 p)
  rw [hp] at HP
  have HU := hide (fun W (hW : Env w W obs1) => aunlink_any hW hi1 id)
  have HI := hide (fun W (hW : Env w W (obs1.set i (aO _ bA (unlinkR os id)))) => asItIs_end hW hi2 p)
  have HL := hide (fun W (hW : Env w W _) => alink_any hW hi3 p id (-1))
  have HK1 := hide (fun W (hW : Env w W obs1) => Box2.cells (hW.block hK1))
  have HK2 := hide (fun W (hW : Env w W (obs1.set i (aO _ bA (unlinkR os id)))) => Box2.cells (hW.block hK2))
  have HPK := hide (fun W (hW : Env w W (obs1.set i (aO _ bA (unlinkR os id)))) => hW.poke2 hK2 p (-1))
  have HFIN := hide hfin
  unfold spotV at HP HI ⊢
  unfold endE
  generalize unlinkE os id = ue at *
  generalize linkE (unlinkR os id) p id (-1) = le at *
  clear hB hi1 hK1 hi2 hK2 hi3 hfin h hi hp hid hobs1 hlen1 hlt
  have HBX := hide (Box2.new wx p (-1)).cells
  by_cases hle : le = 0
  · subst hle
    rw [if_pos rfl]
    go_enter Try.func32, Try.ntmps32
    go_wp2_with (first
      | (go_at_call 16; refine ((unhide HA) _ (unhide HB)).mono ?_; rintro e w1 ⟨rfl, rfl⟩)
      | (go_at_call 27; refine (unhide HT).mono ?_; rintro e w2 ⟨rfl, rfl⟩)
      | (go_at_call 17; refine ((unhide HP) _ ((unhide HB).more (below_new _ _))).mono ?_; rintro e w3 ⟨rfl, hb3⟩; have HB3 := hide (((unhide HB).more (below_new _ _)).more hb3); clear hb3)
      | (go_at_call 37; refine ((unhide HU) _ (unhide HB3)).mono ?_; rintro e w4 ⟨rfl, he4⟩; have HB4 := hide he4; obtain ⟨k0, k1, f0, f1⟩ := (unhide HK2) _ he4; clear he4)
      | (go_at_call 20; refine ((unhide HI) _ (unhide HB4)).mono ?_; rintro e w5 ⟨rfl, hb5⟩; clear k0 k1 f0 f1; have HB5 := hide ((unhide HB4).more hb5); obtain ⟨k0, k1, f0, f1⟩ := (unhide HK2) _ (unhide HB5); have HB6 := hide ((unhide HPK) _ (unhide HB5)); clear hb5)
      | (go_at_call 38; refine ((unhide HL) _ (unhide HB6)).mono ?_; rintro e w7 ⟨rfl, he7⟩; have HB7 := hide he7; clear he7))
    go_ret
    have R := (unhide HB7).take obs.length
    rw [unhide HFIN] at R
    exact ⟨rfl, R⟩
  · have hle2 : (le != 0) = true := by simp [hle]
    rw [if_neg hle]
    go_enter Try.func32, Try.ntmps32
    go_wp2_with (first
      | (go_at_call 16; refine ((unhide HA) _ (unhide HB)).mono ?_; rintro e w1 ⟨rfl, rfl⟩)
      | (go_at_call 27; refine (unhide HT).mono ?_; rintro e w2 ⟨rfl, rfl⟩)
      | (go_at_call 17; refine ((unhide HP) _ ((unhide HB).more (below_new _ _))).mono ?_; rintro e w3 ⟨rfl, hb3⟩; have HB3 := hide (((unhide HB).more (below_new _ _)).more hb3); clear hb3)
      | (go_at_call 37; refine ((unhide HU) _ (unhide HB3)).mono ?_; rintro e w4 ⟨rfl, he4⟩; have HB4 := hide he4; obtain ⟨k0, k1, f0, f1⟩ := (unhide HK2) _ he4; clear he4)
      | (go_at_call 20; refine ((unhide HI) _ (unhide HB4)).mono ?_; rintro e w5 ⟨rfl, hb5⟩; clear k0 k1 f0 f1; have HB5 := hide ((unhide HB4).more hb5); obtain ⟨k0, k1, f0, f1⟩ := (unhide HK2) _ (unhide HB5); have HB6 := hide ((unhide HPK) _ (unhide HB5)); clear hb5)
      | (go_at_call 38; refine ((unhide HL) _ (unhide HB6)).mono ?_; rintro e w7 ⟨rfl, he7⟩; have HB7 := hide he7; clear he7))
    go_ret
    have R := (unhide HB7).take obs.length
    rw [unhide HFIN] at R
    exact ⟨rfl, R⟩
end
end Go.Proofs.Ytgmlngmfocdmhaa
