import Derived.Test.YtkakncngkmoegaaGreatTZar
/-
  Package place: Put ahead of a node.
-/
namespace Go.Proofs.YtkakncngkmoegaaGreat
open Go.RowKit

def beforeO (os : List OneM) (p q : Int) : Int := if 0 ≤ q ∧ (os[q.toNat]?).map OneM.up = some p then q else -1
def spotR (os : List OneM) (p q id : Int) : List OneM := linkR (unlinkR os id) p id (beforeO (unlinkR os id) p q)
theorem spotR_end (os : List OneM) (p id : Int) : spotR os p (-1) id = linkR (unlinkR os id) p id (-1) := by simp [spotR, beforeO]

section
variable {w wx : World} {obs : List (Ob w.heap.size)} {i j bA : Nat} {os : List OneM}
theorem athere2b (h : Env w wx obs) (hi : obs[i]? = some (aO _ bA os)) (ob : Obj) (x y : Int) :
    Calls Tryz.prog 163 #[.pointer (some ⟨bA, 0, none⟩), .slice (some ⟨wx.heap.size + 1, 0, none⟩) 2 2] ((wx.alloc ob).alloc (.cells #[.int .i64 x, .int .i64 y] 3)) fun e w' => e = .returned (.bool (hasO os x && hasO os y)) ∧ (wx.alloc ob).alloc (.cells #[.int .i64 x, .int .i64 y] 3) = w' := by
  have := athere2 (h.more (below_new wx ob)) hi x y
  rw [show (wx.alloc ob).heap.size = wx.heap.size + 1 by simp] at this
  exact this
set_option maxRecDepth 100000 in
theorem placeThere_at (h : Env w wx obs) (hi : obs[i]? = some (aO _ bA os)) (p : Int) (q : Nat) :
    Calls Tryz.prog 196 #[.pointer (some ⟨bA, 0, none⟩), spotV p q] wx fun e w' => e = .returned (.bool (hasO os p && hasO os q)) ∧ Below wx.heap.size wx w' := by
  have HE := hide h
  have HT := hide (fun W (hW : Env w W obs) ob x y => athere2b hW hi ob x y)
  have h0 : ((q : Int) == -1) = false := by simp
  have h1 : ¬ ((q : Int) = -1) := by omega
  clear h hi
  unfold spotV
  go_enter Tryz.func196, Tryz.ntmps196
  go_wp2_with (first
    | (go_at_call 163; refine ((unhide HT) _ (unhide HE) _ _ _).mono ?_; rintro e w3 ⟨rfl, rfl⟩))
  go_ret
  exact ⟨rfl, (below_new _ _).alloc (by simp) _⟩

set_option maxRecDepth 100000 in
theorem asItIs_yes (h : Env w wx obs) (hi : obs[i]? = some (aO _ bA os)) {k : Nat} {o : OneM} (ho : os[k]? = some o) :
    Calls Tryz.prog 197 #[.pointer (some ⟨bA, 0, none⟩), spotV o.up k] wx fun e w' => e = .returned (spotV o.up k) ∧ Below wx.heap.size wx w' := by
  have HE := hide h
  have HN := hide (fun W (hW : Env w W obs) => anode_in hW hi ho)
  clear h hi ho
  unfold spotV
  go_enter Tryz.func197, Tryz.ntmps197
  go_wp2_with (first
    | (go_at_call 14; refine ((unhide HN) _ ((unhide HE).more (two_boxes (Below.refl _ _)).2.2)).mono ?_; rintro e w4 ⟨n, ao, m, c, rfl, hn, hb4⟩; obtain ⟨b1, b2, b3⟩ := two_boxes hb4; have HB1 := hide (Sp.mk b3 (Nat.le_refl _) b1); have HB2 := hide (show Sp wx w4 (wx.heap.size + 1) 0 0 from ⟨b3, Nat.le_succ _, b2⟩); clear hb4 b1 b2 b3; obtain ⟨nk, nsp, nm, av, da, sy, pa, fi, la, pr, ne, inn, att⟩ := n; obtain rfl : pa = o.up := hn.same.up; clear hn; simp only [nodeV, NodeM.cells]; obtain ⟨l0, l1, m0, m1⟩ := ((unhide HB1).alloc (.cells #[.int .i64 nk, .int .i64 nsp, .string nm, .slice ao m c, .string da, .string sy, .int .i64 o.up, .int .i64 fi, .int .i64 la, .int .i64 pr, .int .i64 ne, .int .i64 inn] 47)).cells; obtain ⟨k0, k1, f0, f1⟩ := ((unhide HB2).alloc (.cells #[.int .i64 nk, .int .i64 nsp, .string nm, .slice ao m c, .string da, .string sy, .int .i64 o.up, .int .i64 fi, .int .i64 la, .int .i64 pr, .int .i64 ne, .int .i64 inn] 47)).cells; have HB3 := hide ((unhide HB2).alloc (.cells #[.int .i64 nk, .int .i64 nsp, .string nm, .slice ao m c, .string da, .string sy, .int .i64 o.up, .int .i64 fi, .int .i64 la, .int .i64 pr, .int .i64 ne, .int .i64 inn] 47))))
  have R := (unhide HB3).put o.up k
  exact bodyPost_ret (spot_ret1 (p := 4) Tryz.results197 (b := wx.heap.size + 1) R.box _ rfl) rfl ⟨rfl, R.bel⟩
set_option maxRecDepth 100000 in
theorem asItIs_no (h : Env w wx obs) (hi : obs[i]? = some (aO _ bA os)) {k : Nat} {o : OneM} (ho : os[k]? = some o) (p : Int) (hp : o.up ≠ p) :
    Calls Tryz.prog 197 #[.pointer (some ⟨bA, 0, none⟩), spotV p k] wx fun e w' => e = .returned (spotV p (-1)) ∧ Below wx.heap.size wx w' := by
  have HE := hide h
  have HN := hide (fun W (hW : Env w W obs) => anode_in hW hi ho)
  have HAT := hide (fun (W : World) (x : Int) => atEnd_any W x)
  clear h hi ho
  have hp2 : (o.up != p) = true := by simpa using hp
  unfold spotV at HAT ⊢
  go_enter Tryz.func197, Tryz.ntmps197
  go_wp2_with (first
    | (go_at_call 14; refine ((unhide HN) _ ((unhide HE).more (two_boxes (Below.refl _ _)).2.2)).mono ?_; rintro e w4 ⟨n, ao, m, c, rfl, hn, hb4⟩; obtain ⟨b1, b2, b3⟩ := two_boxes hb4; have HB1 := hide (Sp.mk b3 (Nat.le_refl _) b1); have HB2 := hide (show Sp wx w4 (wx.heap.size + 1) 0 0 from ⟨b3, Nat.le_succ _, b2⟩); clear hb4 b1 b2 b3; obtain ⟨nk, nsp, nm, av, da, sy, pa, fi, la, pr, ne, inn, att⟩ := n; obtain rfl : pa = o.up := hn.same.up; clear hn; simp only [nodeV, NodeM.cells]; obtain ⟨z0, z1, z2, z3⟩ := ((unhide HB1).alloc (.cells #[.int .i64 nk, .int .i64 nsp, .string nm, .slice ao m c, .string da, .string sy, .int .i64 o.up, .int .i64 fi, .int .i64 la, .int .i64 pr, .int .i64 ne, .int .i64 inn] 47)).cells; obtain ⟨l0, l1, m0, m1⟩ := (unhide HB1).cells)
    | (go_at_call 164; refine ((unhide HAT) _ _).mono ?_; rintro e w5 ⟨rfl, hb5⟩; have HS5 := hide (((unhide HB2).alloc _).more hb5); clear z0 z1 z2 z3 l0 l1 m0 m1; obtain ⟨k0, k1, f0, f1⟩ := (unhide HS5).cells; clear hb5))
  have R := (unhide HS5).put p (-1)
  exact bodyPost_ret (spot_ret1 (p := 4) Tryz.results197 (b := wx.heap.size + 1) R.box _ rfl) rfl ⟨rfl, R.bel⟩
theorem asItIs_at (h : Env w wx obs) (hi : obs[i]? = some (aO _ bA os)) (p q : Int) (hq : q = -1 ∨ hasO os q = true) :
    Calls Tryz.prog 197 #[.pointer (some ⟨bA, 0, none⟩), spotV p q] wx fun e w' => e = .returned (spotV p (beforeO os p q)) ∧ Below wx.heap.size wx w' := by
  rcases hq with rfl | hq
  · simpa [beforeO] using asItIs_end h hi p
  · have hq2 : 0 ≤ q ∧ q < os.length := by simpa [hasO] using hq
    obtain ⟨k, rfl⟩ : ∃ k : Nat, q = k := ⟨q.toNat, by omega⟩
    obtain ⟨o, ho⟩ : ∃ o, os[k]? = some o := ⟨_, List.getElem?_eq_getElem (by omega)⟩
    by_cases hu : o.up = p
    · subst hu
      have e : beforeO os o.up k = k := by simp [beforeO, ho]
      rw [e]
      exact asItIs_yes h hi ho
    · have e : beforeO os p k = -1 := by simp [beforeO, ho, hu]
      rw [e]
      exact asItIs_no h hi ho p hu
theorem placeThere_any (h : Env w wx obs) (hi : obs[i]? = some (aO _ bA os)) (p q : Int) (hp : hasO os p = true) (hq : q = -1 ∨ hasO os q = true) :
    Calls Tryz.prog 196 #[.pointer (some ⟨bA, 0, none⟩), spotV p q] wx fun e w' => e = .returned (.bool true) ∧ Below wx.heap.size wx w' := by
  rcases hq with rfl | hq
  · have := placeThere_end h hi p
    rwa [hp] at this
  · have hq2 : 0 ≤ q ∧ q < os.length := by simpa [hasO] using hq
    obtain ⟨k, rfl⟩ : ∃ k : Nat, q = k := ⟨q.toNat, by omega⟩
    have := placeThere_at h hi p k
    rw [hp, hq] at this
    exact this

set_option maxHeartbeats 1000000 in
set_option maxRecDepth 100000 in
theorem pput_any (h : Env w wx obs) (hi : obs[i]? = some (aO _ bA os)) (p q id : Int) (hp : hasO os p = true) (hid : hasO os id = true) (hq : q = -1 ∨ hasO os q = true) :
    Calls Tryz.prog 168 #[.pointer (some ⟨bA, 0, none⟩), spotV p q, .int .i64 id] wx fun e w' => (∃ r, e = .returned (.int .i64 r)) ∧ Env w w' (obs.set i (aO _ bA (spotR os p q id))) := by
  have hul : (unlinkR os id).length = os.length := by
    unfold unlinkR
    split
    · exact unlinkO_len _ _ _
    · rfl
  have hq2 : q = -1 ∨ hasO (unlinkR os id) q = true := by simpa [hasO, hul] using hq
  have hlt : i < obs.length := (List.getElem?_eq_some_iff.1 hi).1
  have hB := h.boxed #[.int .i64 p, .int .i64 q] 159
  have hi1 : (obs ++ [blkOb _ wx.heap.size #[.int .i64 p, .int .i64 q] 159])[i]? = some (aO _ bA os) := by rw [List.getElem?_append_left hlt]; exact hi
  have hK1 : (obs ++ [blkOb _ wx.heap.size #[.int .i64 p, .int .i64 q] 159])[obs.length]? = some (blkOb _ wx.heap.size #[.int .i64 p, .int .i64 q] 159) := by simp
  unfold spotR
  generalize hbq : beforeO (unlinkR os id) p q = bq
  have hfin := put_take obs (blkOb _ wx.heap.size #[.int .i64 p, .int .i64 q] 159) hlt (aO _ bA (unlinkR os id)) (aO _ bA (linkR (unlinkR os id) p id bq)) (blkOb _ wx.heap.size #[.int .i64 p, .int .i64 bq] 159)
  have HT := hide (athere1b h hi (.cells #[.int .i64 p, .int .i64 q] 159) id)
  rw [hid] at HT
  generalize hobs1 : obs ++ [blkOb _ wx.heap.size #[.int .i64 p, .int .i64 q] 159] = obs1 at *
  have hlen1 : obs1.length = obs.length + 1 := by rw [← hobs1]; simp
  have hi2 : (obs1.set i (aO _ bA (unlinkR os id)))[i]? = some (aO _ bA (unlinkR os id)) := by rw [List.getElem?_set_self (by omega)]
  have hK2 : (obs1.set i (aO _ bA (unlinkR os id)))[obs.length]? = some (blkOb _ wx.heap.size #[.int .i64 p, .int .i64 q] 159) := by rw [List.getElem?_set_ne (by omega)]; exact hK1
  have hi3 : ((obs1.set i (aO _ bA (unlinkR os id))).set obs.length (blkOb _ wx.heap.size #[.int .i64 p, .int .i64 bq] 159))[i]? = some (aO _ bA (unlinkR os id)) := by rw [List.getElem?_set_ne (by omega)]; exact hi2
  have HB := hide hB
  have HA := hide (fun W (hW : Env w W obs1) => amadeA hW hi1)
  have HP := hide (fun W (hW : Env w W obs1) => placeThere_any hW hi1 p q hp hq)
  have HU := hide (fun W (hW : Env w W obs1) => aunlink_any hW hi1 id)
  have HI := hide (fun W (hW : Env w W (obs1.set i (aO _ bA (unlinkR os id)))) => asItIs_at hW hi2 p q hq2)
  rw [hbq] at HI
  have HL := hide (fun W (hW : Env w W _) => alink_any hW hi3 p id bq)
  have HK2 := hide (fun W (hW : Env w W (obs1.set i (aO _ bA (unlinkR os id)))) => Box2.cells (hW.block hK2))
  have HPK := hide (fun W (hW : Env w W (obs1.set i (aO _ bA (unlinkR os id)))) => hW.poke2 hK2 p bq)
  have HFIN := hide hfin
  unfold spotV at HP HI ⊢
  generalize unlinkE os id = ue at *
  generalize linkE (unlinkR os id) p id bq = le at *
  clear hB hi1 hK1 hi2 hK2 hi3 hfin h hi hp hid hobs1 hlen1 hlt hq hq2 hul hbq
  have HBX := hide (Box2.new wx p q).cells
  by_cases hle : le = 0
  · subst hle
    go_enter Tryz.func168, Tryz.ntmps168
    go_wp2_with (first
      | (go_at_call 161; refine ((unhide HA) _ (unhide HB)).mono ?_; rintro e w1 ⟨rfl, rfl⟩)
      | (go_at_call 163; refine (unhide HT).mono ?_; rintro e w2 ⟨rfl, rfl⟩)
      | (go_at_call 196; refine ((unhide HP) _ ((unhide HB).more (below_new _ _))).mono ?_; rintro e w3 ⟨rfl, hb3⟩; have HB3 := hide (((unhide HB).more (below_new _ _)).more hb3); clear hb3)
      | (go_at_call 170; refine ((unhide HU) _ (unhide HB3)).mono ?_; rintro e w4 ⟨rfl, he4⟩; have HB4 := hide he4; obtain ⟨k0, k1, f0, f1⟩ := (unhide HK2) _ he4; clear he4)
      | (go_at_call 197; refine ((unhide HI) _ (unhide HB4)).mono ?_; rintro e w5 ⟨rfl, hb5⟩; clear k0 k1 f0 f1; have HB5 := hide ((unhide HB4).more hb5); obtain ⟨k0, k1, f0, f1⟩ := (unhide HK2) _ (unhide HB5); have HB6 := hide ((unhide HPK) _ (unhide HB5)); clear hb5)
      | (go_at_call 19; refine ((unhide HL) _ (unhide HB6)).mono ?_; rintro e w7 ⟨rfl, he7⟩; have HB7 := hide he7; clear he7))
    go_ret
    have R := (unhide HB7).take obs.length
    rw [unhide HFIN] at R
    exact ⟨⟨_, rfl⟩, R⟩
  · have hle2 : (le != 0) = true := by simp [hle]
    go_enter Tryz.func168, Tryz.ntmps168
    go_wp2_with (first
      | (go_at_call 161; refine ((unhide HA) _ (unhide HB)).mono ?_; rintro e w1 ⟨rfl, rfl⟩)
      | (go_at_call 163; refine (unhide HT).mono ?_; rintro e w2 ⟨rfl, rfl⟩)
      | (go_at_call 196; refine ((unhide HP) _ ((unhide HB).more (below_new _ _))).mono ?_; rintro e w3 ⟨rfl, hb3⟩; have HB3 := hide (((unhide HB).more (below_new _ _)).more hb3); clear hb3)
      | (go_at_call 170; refine ((unhide HU) _ (unhide HB3)).mono ?_; rintro e w4 ⟨rfl, he4⟩; have HB4 := hide he4; obtain ⟨k0, k1, f0, f1⟩ := (unhide HK2) _ he4; clear he4)
      | (go_at_call 197; refine ((unhide HI) _ (unhide HB4)).mono ?_; rintro e w5 ⟨rfl, hb5⟩; clear k0 k1 f0 f1; have HB5 := hide ((unhide HB4).more hb5); obtain ⟨k0, k1, f0, f1⟩ := (unhide HK2) _ (unhide HB5); have HB6 := hide ((unhide HPK) _ (unhide HB5)); clear hb5)
      | (go_at_call 19; refine ((unhide HL) _ (unhide HB6)).mono ?_; rintro e w7 ⟨rfl, he7⟩; have HB7 := hide he7; clear he7))
    go_ret
    have R := (unhide HB7).take obs.length
    rw [unhide HFIN] at R
    exact ⟨⟨_, rfl⟩, R⟩
end
end Go.Proofs.YtkakncngkmoegaaGreat
