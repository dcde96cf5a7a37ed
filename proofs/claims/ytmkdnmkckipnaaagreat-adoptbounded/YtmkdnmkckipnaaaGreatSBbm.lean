/-
   
-/
import Derived.Test.YtmkdnmkckipnaaaGreatSBau
import Derived.Test.YtmkdnmkckipnaaaGreatSBbl
namespace Go.Proofs.YtmkdnmkckipnaaaGreat
open Go.RowKit

def beforeO (os : List OneM) (p q : Int) : Int := if 0 ≤ q ∧ (os[q.toNat]?).map OneM.up = some p then q else -1
def spotR (os : List OneM) (p q id : Int) : List OneM := linkR (unlinkR os id) p id (beforeO (unlinkR os id) p q)
theorem spotR_end (os : List OneM) (p id : Int) : spotR os p (-1) id = linkR (unlinkR os id) p id (-1) := by simp [spotR, beforeO]

section
variable {w wx : World} {obs : List (Ob w.heap.size)} {i j bA : Nat} {os : List OneM}
theorem athere2b (h : Env w wx obs) (hi : obs[i]? = some (aO _ bA os)) (ob : Obj) (x y : Int) :
    Calls Tryz.prog 164 #[.pointer (some ⟨bA, 0, none⟩), .slice (some ⟨wx.heap.size + 1, 0, none⟩) 2 2] ((wx.alloc ob).alloc (.cells #[.int .i64 x, .int .i64 y] 3)) fun e w' => e = .returned (.bool (hasO os x && hasO os y)) ∧ (wx.alloc ob).alloc (.cells #[.int .i64 x, .int .i64 y] 3) = w' := by
  have := athere2 (h.more (below_new wx ob)) hi x y
  rw [show (wx.alloc ob).heap.size = wx.heap.size + 1 by simp] at this
  exact this
set_option maxRecDepth 100000 in
theorem placeThere_at (h : Env w wx obs) (hi : obs[i]? = some (aO _ bA os)) (p : Int) (q : Nat) :
    Calls Tryz.prog 199 #[.pointer (some ⟨bA, 0, none⟩), spotV p q] wx fun e w' => e = .returned (.bool (hasO os p && hasO os q)) ∧ Below wx.heap.size wx w' := by
  have HE := hide h
  have HT := hide (fun W (hW : Env w W obs) ob x y => athere2b hW hi ob x y)
  have h0 : ((q : Int) == -1) = false := by simp
  have h1 : ¬ ((q : Int) = -1) := by omega
  clear h hi
  unfold spotV
  go_enter Tryz.func199, Tryz.ntmps199
  go_wp2_with (first
    | (go_at_call 164; refine ((unhide HT) _ (unhide HE) _ _ _).mono ?_; rintro e w3 ⟨rfl, rfl⟩))
  go_ret
  exact ⟨rfl, (below_new _ _).alloc (by simp) _⟩

set_option maxRecDepth 100000 in
theorem asItIs_yes (h : Env w wx obs) (hi : obs[i]? = some (aO _ bA os)) {k : Nat} {o : OneM} (ho : os[k]? = some o) :
    Calls Tryz.prog 200 #[.pointer (some ⟨bA, 0, none⟩), spotV o.up k] wx fun e w' => e = .returned (spotV o.up k) ∧ Below wx.heap.size wx w' := by
  have HE := hide h
  have HN := hide (fun W (hW : Env w W obs) => anode_in hW hi ho)
  clear h hi ho
  unfold spotV
  go_enter Tryz.func200, Tryz.ntmps200
  go_wp2_with (first
    | (go_at_call 14; refine ((unhide HN) _ ((unhide HE).more (two_boxes (Below.refl _ _)).2.2)).mono ?_; rintro e w4 ⟨n, ao, m, c, rfl, hn, hb4⟩; obtain ⟨b1, b2, b3⟩ := two_boxes hb4; have HB1 := hide (Sp.mk b3 (Nat.le_refl _) b1); have HB2 := hide (show Sp wx w4 (wx.heap.size + 1) 0 0 from ⟨b3, Nat.le_succ _, b2⟩); clear hb4 b1 b2 b3; obtain ⟨nk, nsp, nm, av, da, sy, pa, fi, la, pr, ne, inn, att⟩ := n; obtain rfl : pa = o.up := hn.same.up; clear hn; simp only [nodeV, NodeM.cells]; obtain ⟨l0, l1, m0, m1⟩ := ((unhide HB1).alloc (.cells #[.int .i64 nk, .int .i64 nsp, .string nm, .slice ao m c, .string da, .string sy, .int .i64 o.up, .int .i64 fi, .int .i64 la, .int .i64 pr, .int .i64 ne, .int .i64 inn] 47)).cells; obtain ⟨k0, k1, f0, f1⟩ := ((unhide HB2).alloc (.cells #[.int .i64 nk, .int .i64 nsp, .string nm, .slice ao m c, .string da, .string sy, .int .i64 o.up, .int .i64 fi, .int .i64 la, .int .i64 pr, .int .i64 ne, .int .i64 inn] 47)).cells; have HB3 := hide ((unhide HB2).alloc (.cells #[.int .i64 nk, .int .i64 nsp, .string nm, .slice ao m c, .string da, .string sy, .int .i64 o.up, .int .i64 fi, .int .i64 la, .int .i64 pr, .int .i64 ne, .int .i64 inn] 47))))
  have R := (unhide HB3).put o.up k
  exact bodyPost_ret (spot_ret1 (p := 4) Tryz.results200 (b := wx.heap.size + 1) R.box _ rfl) rfl ⟨rfl, R.bel⟩
set_option maxRecDepth 100000 in
theorem asItIs_no (h : Env w wx obs) (hi : obs[i]? = some (aO _ bA os)) {k : Nat} {o : OneM} (ho : os[k]? = some o) (p : Int) (hp : o.up ≠ p) :
    Calls Tryz.prog 200 #[.pointer (some ⟨bA, 0, none⟩), spotV p k] wx fun e w' => e = .returned (spotV p (-1)) ∧ Below wx.heap.size wx w' := by
  have HE := hide h
  have HN := hide (fun W (hW : Env w W obs) => anode_in hW hi ho)
  have HAT := hide (fun (W : World) (x : Int) => atEnd_any W x)
  clear h hi ho
  have hp2 : (o.up != p) = true := by simpa using hp
  unfold spotV at HAT ⊢
  go_enter Tryz.func200, Tryz.ntmps200
  go_wp2_with (first
    | (go_at_call 14; refine ((unhide HN) _ ((unhide HE).more (two_boxes (Below.refl _ _)).2.2)).mono ?_; rintro e w4 ⟨n, ao, m, c, rfl, hn, hb4⟩; obtain ⟨b1, b2, b3⟩ := two_boxes hb4; have HB1 := hide (Sp.mk b3 (Nat.le_refl _) b1); have HB2 := hide (show Sp wx w4 (wx.heap.size + 1) 0 0 from ⟨b3, Nat.le_succ _, b2⟩); clear hb4 b1 b2 b3; obtain ⟨nk, nsp, nm, av, da, sy, pa, fi, la, pr, ne, inn, att⟩ := n; obtain rfl : pa = o.up := hn.same.up; clear hn; simp only [nodeV, NodeM.cells]; obtain ⟨z0, z1, z2, z3⟩ := ((unhide HB1).alloc (.cells #[.int .i64 nk, .int .i64 nsp, .string nm, .slice ao m c, .string da, .string sy, .int .i64 o.up, .int .i64 fi, .int .i64 la, .int .i64 pr, .int .i64 ne, .int .i64 inn] 47)).cells; obtain ⟨l0, l1, m0, m1⟩ := (unhide HB1).cells)
    | (go_at_call 165; refine ((unhide HAT) _ _).mono ?_; rintro e w5 ⟨rfl, hb5⟩; have HS5 := hide (((unhide HB2).alloc _).more hb5); clear z0 z1 z2 z3 l0 l1 m0 m1; obtain ⟨k0, k1, f0, f1⟩ := (unhide HS5).cells; clear hb5))
  have R := (unhide HS5).put p (-1)
  exact bodyPost_ret (spot_ret1 (p := 4) Tryz.results200 (b := wx.heap.size + 1) R.box _ rfl) rfl ⟨rfl, R.bel⟩
theorem asItIs_at (h : Env w wx obs) (hi : obs[i]? = some (aO _ bA os)) (p q : Int) (hq : q = -1 ∨ hasO os q = true) :
    Calls Tryz.prog 200 #[.pointer (some ⟨bA, 0, none⟩), spotV p q] wx fun e w' => e = .returned (spotV p (beforeO os p q)) ∧ Below wx.heap.size wx w' := by
  rcases hq with rfl | hq
  · simpa [beforeO] using asItIs_end h hi p
  · have hq2 : 0 ≤ q ∧ q < os.length := by simpa [hasO] using hq
    obtain ⟨k, rfl⟩ : ∃ k : Nat, q = k := ⟨q.toNat, by omega⟩
    obtain ⟨o, ho⟩ : ∃ o, os[k]? = some o := ⟨_, List.getElem?_eq_getElem (by omega)⟩
    by_cases hu : o.up = p
    · subst hu
      have e : beforeO os o.up k = k := by simp [beforeO, ho]
      rw [e]
      exact asItIs_yes h hi ho
    · have e : beforeO os p k = -1 := by simp [beforeO, ho, hu]
      rw [e]
      exact asItIs_no h hi ho p hu
theorem placeThere_any (h : Env w wx obs) (hi : obs[i]? = some (aO _ bA os)) (p q : Int) (hp : hasO os p = true) (hq : q = -1 ∨ hasO os q = true) :
    Calls Tryz.prog 199 #[.pointer (some ⟨bA, 0, none⟩), spotV p q] wx fun e w' => e = .returned (.bool true) ∧ Below wx.heap.size wx w' := by
  rcases hq with rfl | hq
  · have := placeThere_end h hi p
    rwa [hp] at this
  · have hq2 : 0 ≤ q ∧ q < os.length := by simpa [hasO] using hq
    obtain ⟨k, rfl⟩ : ∃ k : Nat, q = k := ⟨q.toNat, by omega⟩
    have := placeThere_at h hi p k
    rw [hp, hq] at this
    exact this

set_option maxHeartbeats 1000000 in
set_option maxRecDepth 100000 in
theorem pput_any (h : Env w wx obs) (hi : obs[i]? = some (aO _ bA os)) (p q id : Int) (hp : hasO os p = true) (hid : hasO os id = true) (hq : q = -1 ∨ hasO os q = true) :
    Calls Tryz.prog 169 #[.pointer (some ⟨bA, 0, none⟩), spotV p q, .int .i64 id] wx fun e w' => (∃ r, e = .returned (.int .i64 r)) ∧ Env w w' (obs.set i (aO _ bA (spotR os p q id))) := by
  have hul : (unlinkR os id).length = os.length := by
    unfold unlinkR
    split
    · exact unlinkO_len _ _ _
    · rfl
  have hq2 : q = -1 ∨ hasO (unlinkR os id) q = true := by simpa [hasO, hul] using hq
  have hlt : i < obs.length := (List.getElem?_eq_some_iff.1 hi).1
  have hB := h.boxed #[.int .i64 p, .int .i64 q] 157
  have hi1 : (obs ++ [blkOb _ wx.heap.size #[.int .i64 p, .int .i64 q] 157])[i]? = some (aO _ bA os) := by rw [List.getElem?_append_left hlt]; exact hi
  have hK1 : (obs ++ [blkOb _ wx.heap.size #[.int .i64 p, .int .i64 q] 157])[obs.length]? = some (blkOb _ wx.heap.size #[.int .i64 p, .int .i64 q] 157) := by simp
  unfold spotR
  generalize hbq : beforeO (unlinkR os id) p q = bq
  have hfin := put_take obs (blkOb _ wx.heap.size #[.int .i64 p, .int .i64 q] 157) hlt (aO _ bA (unlinkR os id)) (aO _ bA (linkR (unlinkR os id) p id bq)) (blkOb _ wx.heap.size #[.int .i64 p, .int .i64 bq] 157)
  have HT := hide (athere1b h hi (.cells #[.int .i64 p, .int .i64 q] 157) id)
  rw [hid] at HT
  generalize hobs1 : obs ++ [blkOb _ wx.heap.size #[.int .i64 p, .int .i64 q] 157] = obs1 at *
  have hlen1 : obs1.length = obs.length + 1 := by rw [← hobs1]; simp
  have hi2 : (obs1.set i (aO _ bA (unlinkR os id)))[i]? = some (aO _ bA (unlinkR os id)) := by rw [List.getElem?_set_self (by omega)]
  have hK2 : (obs1.set i (aO _ bA (unlinkR os id)))[obs.length]? = some (blkOb _ wx.heap.size #[.int .i64 p, .int .i64 q] 157) := by rw [List.getElem?_set_ne (by omega)]; exact hK1
  have hi3 : ((obs1.set i (aO _ bA (unlinkR os id))).set obs.length (blkOb _ wx.heap.size #[.int .i64 p, .int .i64 bq] 157))[i]? = some (aO _ bA (unlinkR os id)) := by rw [List.getElem?_set_ne (by omega)]; exact hi2
  have HB := hide hB
  have HA := hide (fun W (hW : Env w W obs1) => amadeA hW hi1)
  have HP := hide (fun W (hW : Env w W obs1) => placeThere_any hW hi1 p q hp hq)
  have HU := hide (fun W (hW : Env w W obs1) => aunlink_any hW hi1 id)
  have HI := hide (fun W (hW : Env w W (obs1.set i (aO _ bA (unlinkR os id)))) => asItIs_at hW hi2 p q hq2)
  rw [hbq] at HI
  have HL := hide (fun W (hW : Env w W _) => alink_any hW hi3 p id bq)
  have HK2 := hide (fun W (hW : Env w W (obs1.set i (aO _ bA (unlinkR os id)))) => Box2.cells (hW.block hK2))
  have HPK := hide (fun W (hW : Env w W (obs1.set i (aO _ bA (unlinkR os id)))) => hW.poke2 hK2 p bq)
  have HFIN := hide hfin
  unfold spotV at HP HI ⊢
  generalize unlinkE os id = ue at *
  generalize linkE (unlinkR os id) p id bq = le at *
  clear hB hi1 hK1 hi2 hK2 hi3 hfin h hi hp hid hobs1 hlen1 hlt hq hq2 hul hbq
  have HBX := hide (Box2.new wx p q).cells
  by_cases hle : le = 0
  · subst hle
    go_enter Tryz.func169, Tryz.ntmps169
    go_wp2_with (first
      | (go_at_call 162; refine ((unhide HA) _ (unhide HB)).mono ?_; rintro e w1 ⟨rfl, rfl⟩)
      | (go_at_call 164; refine (unhide HT).mono ?_; rintro e w2 ⟨rfl, rfl⟩)
      | (go_at_call 199; refine ((unhide HP) _ ((unhide HB).more (below_new _ _))).mono ?_; rintro e w3 ⟨rfl, hb3⟩; have HB3 := hide (((unhide HB).more (below_new _ _)).more hb3); clear hb3)
      | (go_at_call 171; refine ((unhide HU) _ (unhide HB3)).mono ?_; rintro e w4 ⟨rfl, he4⟩; have HB4 := hide he4; obtain ⟨k0, k1, f0, f1⟩ := (unhide HK2) _ he4; clear he4)
      | (go_at_call 200; refine ((unhide HI) _ (unhide HB4)).mono ?_; rintro e w5 ⟨rfl, hb5⟩; clear k0 k1 f0 f1; have HB5 := hide ((unhide HB4).more hb5); obtain ⟨k0, k1, f0, f1⟩ := (unhide HK2) _ (unhide HB5); have HB6 := hide ((unhide HPK) _ (unhide HB5)); clear hb5)
      | (go_at_call 19; refine ((unhide HL) _ (unhide HB6)).mono ?_; rintro e w7 ⟨rfl, he7⟩; have HB7 := hide he7; clear he7))
    go_ret
    have R := (unhide HB7).take obs.length
    rw [unhide HFIN] at R
    exact ⟨⟨_, rfl⟩, R⟩
  · have hle2 : (le != 0) = true := by simp [hle]
    go_enter Tryz.func169, Tryz.ntmps169
    go_wp2_with (first
      | (go_at_call 162; refine ((unhide HA) _ (unhide HB)).mono ?_; rintro e w1 ⟨rfl, rfl⟩)
      | (go_at_call 164; refine (unhide HT).mono ?_; rintro e w2 ⟨rfl, rfl⟩)
      | (go_at_call 199; refine ((unhide HP) _ ((unhide HB).more (below_new _ _))).mono ?_; rintro e w3 ⟨rfl, hb3⟩; have HB3 := hide (((unhide HB).more (below_new _ _)).more hb3); clear hb3)
      | (go_at_call 171; refine ((unhide HU) _ (unhide HB3)).mono ?_; rintro e w4 ⟨rfl, he4⟩; have HB4 := hide he4; obtain ⟨k0, k1, f0, f1⟩ := (unhide HK2) _ he4; clear he4)
      | (go_at_call 200; refine ((unhide HI) _ (unhide HB4)).mono ?_; rintro e w5 ⟨rfl, hb5⟩; clear k0 k1 f0 f1; have HB5 := hide ((unhide HB4).more hb5); obtain ⟨k0, k1, f0, f1⟩ := (unhide HK2) _ (unhide HB5); have HB6 := hide ((unhide HPK) _ (unhide HB5)); clear hb5)
      | (go_at_call 19; refine ((unhide HL) _ (unhide HB6)).mono ?_; rintro e w7 ⟨rfl, he7⟩; have HB7 := hide he7; clear he7))
    go_ret
    have R := (unhide HB7).take obs.length
    rw [unhide HFIN] at R
    exact ⟨⟨_, rfl⟩, R⟩
end
end Go.Proofs.YtmkdnmkckipnaaaGreat

namespace Go.Proofs.YtmkdnmkckipnaaaGreat
open Go.RowKit

structure St where
  os : List OneM
  L : List Int
  es : List EntM
  mark : Int

def tokE (es : List EntM) (id : Int) : TokM := (es.getD (placeE es id).toNat mark0).tok

def dropP (s : St) (id : Int) : St := ⟨s.os, s.L, delE s.es (placeE s.es id), if placeE s.es id < s.mark then s.mark - 1 else s.mark⟩
def leaveP (s : St) (id : Int) : St := ⟨s.os, removeL s.L id, s.es, s.mark⟩
def standP (s : St) (i id : Int) : St := ⟨s.os, putL (keysO s.os) s.L i id, s.es, s.mark⟩
def enterP (s : St) (id : Int) (t : TokM) : St := ⟨s.os, s.L, putEAc (keysO s.os) s.es s.mark id t, s.mark⟩
def swapP (s : St) (old id : Int) : St := ⟨s.os, swapL (keysO s.os) s.L old id, swapEAc (keysO s.os) s.es old id, s.mark⟩
def putP (s : St) (p q id : Int) : St := ⟨spotR s.os p q id, s.L, s.es, s.mark⟩
def newR (s : St) (n : Int) : List OneM × Int × Int := elemO s.os 0 (tokE s.es n).name (tokE s.es n).attrs
def newP (s : St) (n : Int) : St := ⟨(newR s n).1, s.L, s.es, s.mark⟩
def newI (s : St) (n : Int) : Int := (newR s n).2.1
def markP (s : St) (m : Int) : St := ⟨s.os, s.L, s.es, m⟩

/-- One of the elements between both: with its entry made anew. -/
def againP (b : Int) (s : St) (n last : Int) : St :=
  putP (if last = b then markP (swapP (newP s n) n (newI s n)) (placeE (swapP (newP s n) n (newI s n)).es (newI s n) + 1) else swapP (newP s n) n (newI s n)) (newI s n) (-1) last
def goP (s : St) (n : Int) : St := leaveP (if 0 ≤ placeE s.es n then dropP s n else s) n
/-- From B down to F. -/
def renewP (f b : Int) : Nat → Nat → St → Int → St × Int
  | 0, _, s, last => (s, last)
  | i + 1, c, s, last =>
    if atM s.L (i : Int) = f then (s, last)
    else if 0 ≤ placeE s.es (atM s.L (i : Int)) ∧ c ≤ 3 then renewP f b i (c + 1) (againP b s (atM s.L (i : Int)) last) (newI s (atM s.L (i : Int)))
    else renewP f b i (c + 1) (goP s (atM s.L (i : Int))) last

def kidsP (m : Int) (s : St) (l : List Nat) : St := l.foldl (fun s (k : Nat) => putP s m (-1) (k : Int)) s
/-- What is in B comes into M. -/
def fillP (s : St) (f b : Int) : St := putP (kidsP (newI s f) (newP s f) (kidsO (newR s f).1 b)) b (-1) (newI s f)
def replaceP (s : St) (f b : Int) : St :=
  standP (leaveP (enterP (dropP (fillP s f b) f) (newI s f) (tokE (fillP s f b).es f)) f) (findM (leaveP (enterP (dropP (fillP s f b) f) (newI s f) (tokE (fillP s f b).es f)) f).L b + 1) (newI s f)
def belowP (L : List Int) (f : Int) : Int := if 0 < findM L f then atM L (findM L f - 1) else 0
def spotF (os : List OneM) (L : List Int) (c : Int) (foster : Bool) : Int × Int := if foster then spotP os L c.toNat else outP os (c, -1)
def renewF (s : St) (f b : Int) : St × Int := renewP f b (findM s.L b).toNat 1 (markP s (placeE s.es f)) b
def moveP (s : St) (c last : Int) (foster : Bool) : St := putP s (spotF s.os s.L c foster).1 (spotF s.os s.L c foster).2 last
def adoptP (s : St) (f b : Int) (foster : Bool) : St := replaceP (moveP (renewF s f b).1 (belowP s.L f) (renewF s f b).2 foster) f b

/-- The special element above F that is nearest to it. -/
def specP (ks : List Key) (L : List Int) : Nat → Nat → Int
  | 0, _ => -1
  | n + 1, i => if specM ks (atM L (i : Int)) = true then atM L (i : Int) else specP ks L n (i + 1)
def blockP (ks : List Key) (L : List Int) (f : Int) : Int := specP ks L (L.length - ((findM L f).toNat + 1)) ((findM L f).toNat + 1)

/-- What came of a round: it goes on, or is done. -/
structure Out where
  s : St
  more : Bool
  another : Bool
  errs : Int
def roundP (name : ByteArray) (foster : Bool) (s : St) (errs : Int) : Out :=
  if lastE name s.es s.es.length = -1 then ⟨s, false, true, errs⟩
  else if findM s.L (lastE name s.es s.es.length) < 0 then ⟨dropP s (lastE name s.es s.es.length), false, false, errs + 1⟩
  else if nodeScopeM (keysO s.os) s.L (lastE name s.es s.es.length) 0 = false then ⟨s, false, false, errs + 1⟩
  else if blockP (keysO s.os) s.L (lastE name s.es s.es.length) = -1 then
    ⟨dropP ⟨s.os, s.L.take (findM s.L (lastE name s.es s.es.length)).toNat, s.es, s.mark⟩ (lastE name s.es s.es.length), false, false, if lastE name s.es s.es.length = topM s.L then errs else errs + 1⟩
  else ⟨adoptP s (lastE name s.es s.es.length) (blockP (keysO s.os) s.L (lastE name s.es s.es.length)) foster, true, false, if lastE name s.es s.es.length = topM s.L then errs else errs + 1⟩
def roundsP (name : ByteArray) (foster : Bool) : Nat → St → Int → St × Bool × Int
  | 0, s, errs => (s, false, errs)
  | n + 1, s, errs => if (roundP name foster s errs).more = true then roundsP name foster n (roundP name foster s errs).s (roundP name foster s errs).errs
    else ((roundP name foster s errs).s, (roundP name foster s errs).another, (roundP name foster s errs).errs)
end Go.Proofs.YtmkdnmkckipnaaaGreat
