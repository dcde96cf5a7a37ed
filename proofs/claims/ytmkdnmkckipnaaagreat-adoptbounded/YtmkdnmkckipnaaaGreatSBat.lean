/-
   PlaceZero: without an arena or a stack nothing is put. 
-/
import Derived.Test.YtmkdnmkckipnaaaGreatSBag
import Derived.Test.YtmkdnmkckipnaaaGreatSBaj
import Derived.Test.YtmkdnmkckipnaaaGreatSBas
import Derived.Test.YtmkdnmkckipnaaaGreatSBad
import Derived.Test.YtmkdnmkckipnaaaGreatSBao
import Derived.Deep.LoopGhost
namespace Go.Proofs.YtmkdnmkckipnaaaGreat
open Go.RowKit

def keysO (os : List OneM) : List Key := os.map keyO
theorem Sim.keys {ns : List NodeM} {os : List OneM} (h : Sim ns os) : ns.map keyN = keysO os := by
  unfold keysO
  refine List.ext_getElem? fun i => ?_
  rw [List.getElem?_map, List.getElem?_map]
  rcases ho : os[i]? with _ | o
  · have : ns[i]? = none := by
      rw [List.getElem?_eq_none_iff] at ho ⊢
      rw [h.len]; exact ho
    rw [this]; rfl
  · obtain ⟨n, hn, sm⟩ := h.get ho
    rw [hn]
    simp only [Option.map_some, keyN, keyO, sm.kind, sm.space, sm.name]
theorem keysO_len (os : List OneM) : (keysO os).length = os.length := by simp [keysO]

def aO (base bA : Nat) (os : List OneM) : Ob base := ⟨fun w F => ∃ ns, ArS w base bA ns F ∧ Sim ns os, fun _ _ _ ⟨_, h, _⟩ hk => h.lt hk, fun _ _ _ _ ⟨ns, h, hs⟩ hm hG => ⟨ns, h.mod hm hG, hs⟩⟩
def rO (base bR : Nat) (os : List OneM) : Ob base := ⟨fun w F => RfS w base bR os F, fun _ _ _ h hk => h.lt hk, fun _ _ _ _ h hm hG => h.mod hm hG⟩
def rsO (base bW bR : Nat) (L : List Int) : Ob base := ⟨fun w F => RstS w base bW bR L F, fun _ _ _ h hk => h.lt hk, fun _ _ _ _ h hm hG => h.mod hm hG⟩

section
variable {w wx : World} {obs : List (Ob w.heap.size)} {i j bA bR bK bW : Nat} {os : List OneM} {L : List Int}
theorem Env.a (h : Env w wx obs) (hi : obs[i]? = some (aO _ bA os)) : ∃ ns F, ArS wx w.heap.size bA ns F ∧ Sim ns os ∧ ∀ w2 os2, USim F wx w2 w.heap.size bA os2 → Env w w2 (obs.set i (aO _ bA os2)) := by
  obtain ⟨F, ⟨ns, ha, hs⟩, _, hk⟩ := h.upd hi
  refine ⟨ns, F, ha, hs, fun w2 os2 hu => ?_⟩
  obtain ⟨ms, ⟨F', h1, h2, h3⟩, h4⟩ := hu
  exact hk w2 (aO _ bA os2) F' ⟨ms, h1, h4⟩ h2 h3
theorem Env.r (h : Env w wx obs) (hi : obs[i]? = some (rO _ bR os)) : ∃ F, RfS wx w.heap.size bR os F ∧ ∀ w2 os2, URf F wx w2 w.heap.size bR os2 → Env w w2 (obs.set i (rO _ bR os2)) := by
  obtain ⟨F, ho, _, hk⟩ := h.upd hi
  refine ⟨F, ho, fun w2 k2 hu => ?_⟩
  obtain ⟨F', h1, h2, h3⟩ := hu
  exact hk w2 (rO _ bR k2) F' h1 h2 h3
theorem Env.as (h : Env w wx obs) (hi : obs[i]? = some (aO _ bA os)) (hj : obs[j]? = some (stOb _ bK bA L)) (hij : i ≠ j) :
    ∃ FA F, ArK wx w.heap.size bA (keysO os) FA ∧ StkS wx w.heap.size bK bA L F ∧ ∀ w2 L2, UpdS F wx w2 w.heap.size bK bA L2 → Env w w2 (obs.set j (stOb _ bK bA L2)) := by
  obtain ⟨F, ho, hd, hk⟩ := h.upd hj
  obtain ⟨FA, ⟨ns, ha, hs⟩, hdis⟩ := hd i _ hij hi
  refine ⟨FA, F, ⟨ns, ha, hs.keys⟩, ho, fun w2 L2 hu => ?_⟩
  obtain ⟨F', h1, h2, h3⟩ := hu
  exact hk w2 (stOb _ bK bA L2) F' h1 h2 h3
theorem Env.rs (h : Env w wx obs) (hi : obs[i]? = some (rO _ bR os)) (hj : obs[j]? = some (rsO _ bW bR L)) (hij : i ≠ j) :
    ∃ FA F, RfK wx w.heap.size bR (keysO os) FA ∧ RstS wx w.heap.size bW bR L F ∧ ∀ w2 L2, UpdW F wx w2 w.heap.size bW bR L2 → Env w w2 (obs.set j (rsO _ bW bR L2)) := by
  obtain ⟨F, ho, hd, hk⟩ := h.upd hj
  obtain ⟨FA, ha, hdis⟩ := hd i _ hij hi
  refine ⟨FA, F, ⟨os, ha, rfl⟩, ho, fun w2 L2 hu => ?_⟩
  obtain ⟨F', h1, h2, h3⟩ := hu
  exact hk w2 (rsO _ bW bR L2) F' h1 h2 h3

theorem anew_any (h : Env w wx obs) : Calls Tryz.prog 22 #[] wx fun e w' => ∃ bA, e = .returned (.pointer (some ⟨bA, 0, none⟩)) ∧ Env w w' (obs ++ [aO _ bA [oneM 0]]) := by
  refine (new_any wx w.heap.size h.bel.size).mono ?_
  rintro e w' ⟨F, rfl, h1, h2, h3⟩
  exact ⟨_, rfl, h.add h2 (o := aO _ _ _) ⟨_, h1, Sim.new⟩ h3⟩
theorem arnew_any (h : Env w wx obs) : Calls Tryz.prog 25 #[] wx fun e w' => ∃ bR, e = .returned (.pointer (some ⟨bR, 0, none⟩)) ∧ Env w w' (obs ++ [rO _ bR [oneM 0]]) := by
  refine (refNew_any wx w.heap.size h.bel.size).mono ?_
  rintro e w' ⟨bR, g, cap, rfl, h1, h2, h3, h4⟩
  refine ⟨bR, rfl, h.add h2 (o := rO _ bR _) (F := footR bR g [oneR 0]) ⟨g, cap, _, h1, rfl, fun _ => Iff.rfl⟩ ?_⟩
  rintro k (rfl | rfl | ⟨r, hr, hk⟩)
  · exact h3
  · exact h4
  · simp at hr; subst hr; simp [oneR, blk] at hk
theorem aelem_any (h : Env w wx obs) (hi : obs[i]? = some (aO _ bA os)) (sp : Int) (nm : ByteArray) :
    Calls Tryz.prog 18 #[.pointer (some ⟨bA, 0, none⟩), .int .i64 sp, .string nm, .slice none 0 0] wx fun e w' => e = .returned (.tuple #[.int .i64 (elemO os sp nm []).2.1, .int .i64 (elemO os sp nm []).2.2]) ∧ Env w w' (obs.set i (aO _ bA (elemO os sp nm []).1)) := by
  obtain ⟨ns, F, h1, hs, h2⟩ := h.a hi
  exact (element_sim h1 hs sp nm none 0 [] (attrs_none _) (by simp)).mono fun _ _ ⟨a, b⟩ => ⟨a, h2 _ _ b⟩
theorem arelem_any (h : Env w wx obs) (hi : obs[i]? = some (rO _ bR os)) (sp : Int) (nm : ByteArray) :
    Calls Tryz.prog 28 #[.pointer (some ⟨bR, 0, none⟩), .int .i64 sp, .string nm, .slice none 0 0] wx fun e w' => e = .returned (.tuple #[.int .i64 (elemO os sp nm []).2.1, .int .i64 (elemO os sp nm []).2.2]) ∧ Env w w' (obs.set i (rO _ bR (elemO os sp nm []).1)) := by
  obtain ⟨F, ha, h2⟩ := h.r hi
  have key : Calls Tryz.prog 28 #[.pointer (some ⟨bR, 0, none⟩), .int .i64 sp, .string nm, .slice none 0 0] wx fun e w' =>
      e = .returned (.tuple #[.int .i64 (elemO os sp nm []).2.1, .int .i64 (elemO os sp nm []).2.2]) ∧ URf F wx w' w.heap.size bR (elemO os sp nm []).1 := by
    by_cases h1 : sp < 0 ∨ 2 < sp
    · have e : elemO os sp nm [] = (os, 0, 1) := by unfold elemO; rw [if_pos h1]
      rw [e]
      exact (refElement_space sp nm _ h1).mono fun e w' ⟨h1, h2⟩ => ⟨h1, ha.upd (h2 ▸ Below.refl _ _)⟩
    · cases h2 : longS nm with
      | true =>
        have e : elemO os sp nm [] = (os, 0, 2) := by unfold elemO; rw [if_neg h1, longE_nil, h2]; rfl
        rw [e]
        exact (refElement_many sp nm none 0 0 (by omega) (by simp [maxLen]) (.inr h2)).mono fun e w' ⟨h1, h2⟩ => ⟨h1, ha.upd (h2 ▸ Below.refl _ _)⟩
      | false => exact refElement_in ha sp nm none 0 [] (attrs_none _) (by omega) (by simp) h2
  exact key.mono fun _ _ ⟨a, b⟩ => ⟨a, h2 _ _ b⟩
theorem alink_any (h : Env w wx obs) (hi : obs[i]? = some (aO _ bA os)) (p c b : Int) :
    Calls Tryz.prog 19 #[.pointer (some ⟨bA, 0, none⟩), .int .i64 p, .int .i64 c, .int .i64 b] wx fun e w' => e = .returned (.int .i64 (linkE os p c b)) ∧ Env w w' (obs.set i (aO _ bA (linkR os p c b))) := by
  obtain ⟨ns, F, h1, hs, h2⟩ := h.a hi
  exact (link_sim h1 hs p c b).mono fun _ _ ⟨a, b⟩ => ⟨a, h2 _ _ b⟩
theorem aunlink_any (h : Env w wx obs) (hi : obs[i]? = some (aO _ bA os)) (c : Int) :
    Calls Tryz.prog 171 #[.pointer (some ⟨bA, 0, none⟩), .int .i64 c] wx fun e w' => e = .returned (.int .i64 (unlinkE os c)) ∧ Env w w' (obs.set i (aO _ bA (unlinkR os c))) := by
  obtain ⟨ns, F, h1, hs, h2⟩ := h.a hi
  exact (unlink_sim h1 hs c).mono fun _ _ ⟨a, b⟩ => ⟨a, h2 _ _ b⟩
theorem arlink_any (h : Env w wx obs) (hi : obs[i]? = some (rO _ bR os)) (hs : ∃ ns, Sim ns os) (p c b : Int) :
    Calls Tryz.prog 29 #[.pointer (some ⟨bR, 0, none⟩), .int .i64 p, .int .i64 c, .int .i64 b] wx fun e w' => e = .returned (.int .i64 (linkE os p c b)) ∧ Env w w' (obs.set i (rO _ bR (linkR os p c b))) := by
  obtain ⟨F, h1, h2⟩ := h.r hi
  obtain ⟨ns, hs⟩ := hs
  exact (refLink_sim h1 hs p c b).mono fun _ _ ⟨a, b⟩ => ⟨a, h2 _ _ b⟩
theorem Env.sim (h : Env w wx obs) (hi : obs[i]? = some (aO _ bA os)) : ∃ ns, Sim ns os := by
  obtain ⟨ns, F, _, hs, _⟩ := h.a hi
  exact ⟨ns, hs⟩
theorem alen_any (h : Env w wx obs) (hi : obs[i]? = some (aO _ bA os)) : Calls Tryz.prog 12 #[.pointer (some ⟨bA, 0, none⟩)] wx fun e w' => e = .returned (.int .i64 os.length) ∧ wx = w' := by
  obtain ⟨ns, F, h1, hs, _⟩ := h.a hi
  have := len_k (ks := keysO os) ⟨ns, h1, hs.keys⟩
  rw [keysO_len] at this
  exact this
theorem Env.mostA (h : Env w wx obs) (hi : obs[i]? = some (aO _ bA os)) : os.length ≤ 32768 ∧ 0 < os.length := by
  obtain ⟨ns, F, h1, hs, _⟩ := h.a hi
  have := ArK.most (ks := keysO os) ⟨ns, h1, hs.keys⟩
  rw [keysO_len] at this
  exact this
theorem asnew_any (h : Env w wx obs) (hi : obs[i]? = some (aO _ bA os)) :
    Calls Tryz.prog 23 #[.pointer (some ⟨bA, 0, none⟩)] wx fun e w' => ∃ bK, e = .returned (.tuple #[.pointer (some ⟨bK, 0, none⟩), .int .i64 0]) ∧ Env w w' (obs ++ [stOb _ bK bA []]) := by
  obtain ⟨ns, F, h1, hs, _⟩ := h.a hi
  refine (snew_any (ks := keysO os) ⟨ns, h1, hs.keys⟩ h.bel.size).mono ?_
  rintro e w' ⟨bK, F, rfl, h1, h2, h3⟩
  exact ⟨bK, rfl, h.add h2 (o := stOb _ bK bA []) h1 h3⟩
theorem arsnew_any (h : Env w wx obs) :
    Calls Tryz.prog 26 #[.pointer (some ⟨bR, 0, none⟩)] wx fun e w' => ∃ bW, e = .returned (.pointer (some ⟨bW, 0, none⟩)) ∧ Env w w' (obs ++ [rsO _ bW bR []]) := by
  refine (rNew_any h.bel.size).mono ?_
  rintro e w' ⟨bK, F, rfl, h1, h2, h3⟩
  exact ⟨bK, rfl, h.add h2 (o := rsO _ bK bR []) h1 h3⟩
theorem apush_any (h : Env w wx obs) (hi : obs[i]? = some (aO _ bA os)) (hj : obs[j]? = some (stOb _ bK bA L)) (hij : i ≠ j) (hg : Good (keysO os) L) (id : Int) :
    Calls Tryz.prog 20 #[.pointer (some ⟨bK, 0, none⟩), .int .i64 id] wx fun e w' => e = .returned (.int .i64 (enterE (keysO os) L id)) ∧ Env w w' (obs.set j (stOb _ bK bA (pushL (keysO os) L id))) := by
  obtain ⟨FA, F, h1, h2, h4⟩ := h.as hi hj hij
  exact (spush_any h1 h2 hg id).mono fun _ _ ⟨a, b⟩ => ⟨a, h4 _ _ b⟩
theorem arpush_any (h : Env w wx obs) (hi : obs[i]? = some (rO _ bR os)) (hj : obs[j]? = some (rsO _ bW bR L)) (hij : i ≠ j) (hg : Good (keysO os) L) (id : Int) :
    Calls Tryz.prog 30 #[.pointer (some ⟨bW, 0, none⟩), .int .i64 id] wx fun e w' => e = .returned (.int .i64 (enterE (keysO os) L id)) ∧ Env w w' (obs.set j (rsO _ bW bR (pushL (keysO os) L id))) := by
  obtain ⟨FA, F, h1, h2, h4⟩ := h.rs hi hj hij
  exact (rPush_any h1 h2 hg id).mono fun _ _ ⟨a, b⟩ => ⟨a, h4 _ _ b⟩
theorem aremove_any (h : Env w wx obs) (hi : obs[i]? = some (aO _ bA os)) (hj : obs[j]? = some (stOb _ bK bA L)) (hij : i ≠ j) (hg : Good (keysO os) L) (id : Int) :
    Calls Tryz.prog 81 #[.pointer (some ⟨bK, 0, none⟩), .int .i64 id] wx fun e w' => e = .returned (.int .i64 (removeE L id)) ∧ Env w w' (obs.set j (stOb _ bK bA (removeL L id))) := by
  obtain ⟨FA, F, h1, h2, h4⟩ := h.as hi hj hij
  exact (sremove_any h2 hg ((Live.mk' h1 h2).few hg) id).mono fun _ _ ⟨a, b⟩ => ⟨a, h4 _ _ b⟩
end
end Go.Proofs.YtmkdnmkckipnaaaGreat

namespace Go.Proofs.YtmkdnmkckipnaaaGreat
open Go.RowKit

def spotV (p b : Int) : Value := .agg #[.int .i64 p, .int .i64 b]

/-- A place in a block of its own. -/
def Box2 (W : World) (b : Nat) (p q : Int) : Prop := W.heap[b]? = some (.cells #[.int .i64 p, .int .i64 q] 157 (0, 0))
theorem Box2.cells {W : World} {b : Nat} {p q : Int} (h : Box2 W b p q) : W.cell? ⟨b, 0, none⟩ = some (.int .i64 p) ∧ W.cell? ⟨b, 1, none⟩ = some (.int .i64 q) ∧ W.frozen? ⟨b, 0, none⟩ = false ∧ W.frozen? ⟨b, 1, none⟩ = false := by
  unfold Box2 at h
  refine ⟨by simp [World.cell?, h], by simp [World.cell?, h], by simp [World.frozen?, h], by simp [World.frozen?, h]⟩
theorem Box2.new (w : World) (p q : Int) : Box2 (w.alloc (.cells #[.int .i64 p, .int .i64 q] 157)) w.heap.size p q := heap_alloc_new w _
theorem Box2.below {w w' : World} {b : Nat} {p q : Int} (h : Box2 w b p q) (hb : Below w.heap.size w w') : Box2 w' b p q := (hb.block _ (lt_of_block h)).trans h
theorem Box2.alloc {w : World} {b : Nat} {p q : Int} (h : Box2 w b p q) (o : Obj) : Box2 (w.alloc o) b p q := h.below ((Below.refl _ _).alloc (Nat.le_refl _) _)
theorem spot_ret {f : Func} {p u : Tmp} (hr : f.results = #[.cell p 157, .tmp u]) {W : World} {b : Nat} {x y : Int} (h : Box2 W b x y) (tmps : Array Value) (v : Value) (hp : tmps.getD p undef = .pointer (some ⟨b, 0, none⟩)) (hu : tmps.getD u undef = v) :
    (results f tmps).run Tryz.prog W = .ok (.tuple #[spotV x y, v]) W := by
  obtain ⟨c0, c1, _⟩ := h.cells
  rw [results_cell_tmp hr tmps Tryz.prog W, hp, hu]
  simp [go_sem, c0, c1, spotV]

section
variable {w : World}
theorem len_nil (w : World) : Calls Tryz.prog 12 #[.pointer none] w fun e w' => e = .returned (.int .i64 0) ∧ w = w' := by
  go_enter Tryz.func12, Tryz.ntmps12
  go_wp2
  go_ret
  exact ⟨rfl, rfl⟩
theorem madeA_nil (w : World) : Calls Tryz.prog 162 #[.pointer none] w fun e w' => e = .returned (.bool false) ∧ w = w' := by
  have HL := hide (len_nil w)
  go_enter Tryz.func162, Tryz.ntmps162
  go_wp2_with (go_at_call 12; refine (unhide HL).mono ?_; rintro e w' ⟨rfl, rfl⟩)
  go_ret
  exact ⟨rfl, rfl⟩
theorem remove_nil (w : World) (id : Int) : Calls Tryz.prog 81 #[.pointer none, .int .i64 id] w fun e w' => e = .returned (.int .i64 7) ∧ w = w' := by
  go_enter Tryz.func81, Tryz.ntmps81
  go_wp2
  go_ret
  exact ⟨rfl, rfl⟩
theorem madeS_nil (w : World) : Calls Tryz.prog 163 #[.pointer none] w fun e w' => e = .returned (.bool false) ∧ w = w' := by
  have HL := hide (remove_nil w (-1))
  go_enter Tryz.func163, Tryz.ntmps163
  go_wp2_with (go_at_call 81; refine (unhide HL).mono ?_; rintro e w' ⟨rfl, rfl⟩)
  go_ret
  exact ⟨rfl, rfl⟩
theorem spot_nil (w : World) (v : Value) (id : Int) (b : Bool) : Calls Tryz.prog 132 #[.pointer none, v, .int .i64 id, .bool b] w fun e w' => e = .returned (.tuple #[spotV 0 0, .int .i64 7]) ∧ Below w.heap.size w w' := by
  have HL := hide (fun w => madeA_nil w)
  go_enter Tryz.func132, Tryz.ntmps132
  go_wp2_with (go_at_call 162; refine ((unhide HL) _).mono ?_; rintro e w' ⟨rfl, rfl⟩)
  exact bodyPost_ret (spot_ret (p := 8) (u := 9) Tryz.results132 (b := w.heap.size) (Box2.new w 0 0) _ _ rfl rfl) rfl ⟨rfl, (Below.refl _ _).alloc (Nat.le_refl _) _⟩
theorem put_nil (w : World) (p q id : Int) : Calls Tryz.prog 169 #[.pointer none, spotV p q, .int .i64 id] w fun e w' => e = .returned (.int .i64 7) ∧ Below w.heap.size w w' := by
  have HL := hide (fun w => madeA_nil w)
  unfold spotV
  go_enter Tryz.func169, Tryz.ntmps169
  go_wp2_with (go_at_call 162; refine ((unhide HL) _).mono ?_; rintro e w' ⟨rfl, rfl⟩)
  go_ret
  exact ⟨rfl, (Below.refl _ _).alloc (Nat.le_refl _) _⟩
theorem madeA_any {base bA : Nat} {ns : List NodeM} {F : Nat → Prop} (h : ArS w base bA ns F) (hn : 0 < ns.length) : Calls Tryz.prog 162 #[.pointer (some ⟨bA, 0, none⟩)] w fun e w' => e = .returned (.bool true) ∧ w = w' := by
  obtain ⟨bS, g, cap, h, _⟩ := h
  have HL := hide (len_any h)
  have h1 : ((ns.length : Int) != 0) = true := by rw [bne_iff_ne]; omega
  have h2 : ¬ ((ns.length : Int) = 0) := by omega
  clear h
  go_enter Tryz.func162, Tryz.ntmps162
  go_wp2_with (go_at_call 12; refine (unhide HL).mono ?_; rintro e w' ⟨rfl, rfl⟩)
  go_ret
  exact ⟨rfl, rfl⟩
theorem spot_nos {base bA : Nat} {ns : List NodeM} {F : Nat → Prop} (h : ArS w base bA ns F) (hn : 0 < ns.length) (id : Int) (b : Bool) : Calls Tryz.prog 132 #[.pointer (some ⟨bA, 0, none⟩), .pointer none, .int .i64 id, .bool b] w fun e w' => e = .returned (.tuple #[spotV 0 0, .int .i64 7]) ∧ Below w.heap.size w w' := by
  have HA := hide (madeA_any (h.below ((Below.refl _ w).alloc (Nat.le_refl _) (.cells #[.int .i64 0, .int .i64 0] 157))) hn)
  have HL := hide (fun w => madeS_nil w)
  clear h hn
  go_enter Tryz.func132, Tryz.ntmps132
  go_wp2_with (first | (go_at_call 162; refine (unhide HA).mono ?_; rintro e w' ⟨rfl, rfl⟩) | (go_at_call 163; refine ((unhide HL) _).mono ?_; rintro e w' ⟨rfl, rfl⟩))
  exact bodyPost_ret (spot_ret (p := 8) (u := 9) Tryz.results132 (b := w.heap.size) (Box2.new w 0 0) _ _ rfl rfl) rfl ⟨rfl, (Below.refl _ _).alloc (Nat.le_refl _) _⟩

theorem newE_any (w : World) : Calls Tryz.prog 22 #[] w fun e w' => ∃ bA F, e = .returned (.pointer (some ⟨bA, 0, none⟩)) ∧ ArS w' w.heap.size bA [blankM 0] F ∧ Below w.heap.size w w' := by
  refine (new_any w w.heap.size (Nat.le_refl _)).mono ?_
  rintro e w' ⟨F, rfl, h1, h2, h3⟩
  exact ⟨_, F, rfl, h1, h2⟩

end
end Go.Proofs.YtmkdnmkckipnaaaGreat

namespace Go.Proofs.YtmkdnmkckipnaaaGreat
open Go.RowKit

theorem results_cell {fn : Func} {p : Tmp} {ty : TypeId} (h : fn.results = #[.cell p ty]) (tmps : Array Value) (P : Program) (w : World) :
    (results fn tmps).run P w = ((asAddr (tmps.getD p undef)).run P w).andThen fun a w₁ => (loadVar ty a).run P w₁ := by
  simp only [results, h]
  simp [Sem.run_bind, Result.andThen]
theorem spot_ret1 {f : Func} {p : Tmp} (hr : f.results = #[.cell p 157]) {W : World} {b : Nat} {x y : Int} (h : Box2 W b x y) (tmps : Array Value) (hp : tmps.getD p undef = .pointer (some ⟨b, 0, none⟩)) :
    (results f tmps).run Tryz.prog W = .ok (spotV x y) W := by
  obtain ⟨c0, c1, _⟩ := h.cells
  rw [results_cell hr tmps Tryz.prog W, hp]
  simp [go_sem, c0, c1, spotV]

theorem atEnd_any (w : World) (id : Int) : Calls Tryz.prog 165 #[.int .i64 id] w fun e w' => e = .returned (spotV id (-1)) ∧ Below w.heap.size w w' := by
  go_enter Tryz.func165, Tryz.ntmps165
  go_wp2
  exact bodyPost_ret (spot_ret1 (p := 2) Tryz.results165 (b := w.heap.size) (Box2.new w id (-1)) _ rfl) rfl ⟨rfl, below_new w _⟩

def isOfM (n : NodeM) (l : List ByteArray) : Bool := n.kind == 1 && n.space == 0 && hasT l n.name
set_option maxHeartbeats 1000000 in
theorem isOf_any {w : World} (n : NodeM) (v : Value) (l : List ByteArray) (hl : l.length ≤ 1000) (b : Nat) (ht : TabAt w b l) :
    Calls Tryz.prog 197 #[nodeV n v, .slice (some ⟨b, 0, none⟩) l.length l.length] w fun e w' => e = .returned (.bool (isOfM n l)) ∧ Below w.heap.size w w' := by
  unfold isOfM
  obtain ⟨nk, nsp, nm, av, da, sy, pa, fi, la, pr, ne, inn, att⟩ := n
  simp only [nodeV, NodeM.cells]
  by_cases hk : nk = 1
  · by_cases hs : nsp = 0
    · subst hk; subst hs
      have hr : ((1 : Int) == 1 && (0 : Int) == 0 && hasT l nm) = hasT l nm := by simp
      rw [hr]
      clear hr
      have hlz : (l.length : Int) ≤ 1000 := by omega
      have HT := hide (ht.below (below_new w (.cells #[.int .i64 1, .int .i64 0, .string nm, v, .string da, .string sy, .int .i64 pa, .int .i64 fi, .int .i64 la, .int .i64 pr, .int .i64 ne, .int .i64 inn] 47)))
      unfold hasT
      clear ht hl
      go_enter Tryz.func197, Tryz.ntmps197
      go_wp2
      go_loopg [6, 17] l.length (fun g _ s8 wr => ∃ j : Nat, j + g = l.length ∧ s8 = .int .i64 j ∧ wr = w.alloc (.cells #[.int .i64 1, .int .i64 0, .string nm, v, .string da, .string sy, .int .i64 pa, .int .i64 fi, .int .i64 la, .int .i64 pr, .int .i64 ne, .int .i64 inn] 47) ∧ (∀ i s, i < j → l[i]? = some s → (nm.toList == s.toList) = false))
      case atStart => exact ⟨0, by omega, rfl, rfl, fun i s hi => absurd hi (Nat.not_lt_zero _)⟩
      case round =>
        obtain ⟨j, hjg, rfl, rfl, hno⟩ := hrel
        have HN := hide hno
        clear hno
        by_cases hj : j < l.length
        · have hjz : (j : Int) < (l.length : Int) := by omega
          obtain ⟨y, hy⟩ : ∃ y, l[j]? = some y := ⟨_, List.getElem?_eq_getElem hj⟩
          have hcell := (unhide HT).cells j y hy
          have HY := hide hy
          clear hy
          cases hq : (nm.toList == y.toList) with
          | true =>
            have HQ := hide hq
            go_wp2
            go_ret
            refine ⟨?_, below_new _ _⟩
            rw [List.any_eq_true.2 ⟨y, List.mem_of_getElem? (unhide HY), unhide HQ⟩]
            rfl
          | false =>
            have HQ := hide hq
            go_wp2
            go_roundg (gk - 1)
            case measure => omega
            case rel =>
              refine ⟨j + 1, by omega, by go_num, rfl, fun i s hi hs => ?_⟩
              by_cases e : i = j
              · subst e; rw [unhide HY] at hs; cases hs; exact unhide HQ
              · exact (unhide HN) i s (by omega) hs
        · have hjz : ¬ (j : Int) < (l.length : Int) := by omega
          obtain rfl : j = l.length := by omega
          go_wp2
          go_ret
          refine ⟨?_, below_new _ _⟩
          have : (l.any fun x => nm.toList == x.toList) = false := by
            rw [List.any_eq_false]
            intro s hs
            obtain ⟨i, hi⟩ := List.getElem?_of_mem hs
            rw [(unhide HN) i s (List.getElem?_eq_some_iff.1 hi).1 hi]
            exact Bool.false_ne_true
          rw [this]
          rfl
    · have hs2 : (nsp != 0) = true := by simp [hs]
      have hr : (nk == 1 && nsp == 0 && hasT l nm) = false := by simp [hs]
      subst hk
      rw [hr]
      clear hr ht hl
      go_enter Tryz.func197, Tryz.ntmps197
      go_wp2
      go_ret
      exact ⟨rfl, below_new _ _⟩
  · have hk2 : (nk != 1) = true := by simp [hk]
    have hr : (nk == 1 && nsp == 0 && hasT l nm) = false := by simp [hk]
    rw [hr]
    clear hr ht hl
    go_enter Tryz.func197, Tryz.ntmps197
    go_wp2
    go_ret
    exact ⟨rfl, below_new _ _⟩

def NumsAt (w : World) (b : Nat) (l : List Int) : Prop := ∀ j x, l[j]? = some x → w.cell? ⟨b, j, none⟩ = some (.int .i64 x)
set_option maxHeartbeats 1000000 in
theorem there_any {w : World} {base bA : Nat} {ns : List NodeM} {F : Nat → Prop} (h : ArS w base bA ns F) (l : List Int) (hl : l.length ≤ 1000) (b : Nat) (ht : NumsAt w b l) :
    Calls Tryz.prog 164 #[.pointer (some ⟨bA, 0, none⟩), .slice (some ⟨b, 0, none⟩) l.length l.length] w fun e w' => e = .returned (.bool (l.all fun k => hasM ns k)) ∧ w = w' := by
  obtain ⟨bS, g, cap, h, _⟩ := h
  have HL := hide (len_any h)
  have HT := hide ht
  have hlz : (l.length : Int) ≤ 1000 := by omega
  have hm := h.most
  clear h ht hl
  go_enter Tryz.func164, Tryz.ntmps164
  go_wp2
  go_loopg [6, 9] l.length (fun g _ s8 wr => ∃ j : Nat, j + g = l.length ∧ s8 = .int .i64 j ∧ wr = w ∧ (∀ i s, i < j → l[i]? = some s → hasM ns s = true))
  case atStart => exact ⟨0, by omega, rfl, rfl, fun i s hi => absurd hi (Nat.not_lt_zero _)⟩
  case round =>
    obtain ⟨j, hjg, rfl, rfl, hno⟩ := hrel
    have HN := hide hno
    clear hno
    by_cases hj : j < l.length
    · have hjz : (j : Int) < (l.length : Int) := by omega
      obtain ⟨y, hy⟩ : ∃ y, l[j]? = some y := ⟨_, List.getElem?_eq_getElem hj⟩
      have hcell := (unhide HT) j y hy
      have HY := hide hy
      clear hy
      have bad : hasM ns y = false → (l.all fun k => hasM ns k) = false := fun hb => by
        rw [List.all_eq_false]
        exact ⟨y, List.mem_of_getElem? (unhide HY), by rw [hb]; exact Bool.false_ne_true⟩
      have HBAD := hide bad
      clear bad
      generalize hnn : (ns.length : Int) = nn at *
      have HNN := hide hnn
      clear hnn
      by_cases h0 : y < 0
      · have HF := hide (show hasM ns y = false by unfold hasM; exact decide_eq_false (by omega))
        go_wp2_with (go_at_call 12; refine (unhide HL).mono ?_; rintro e w' ⟨rfl, rfl⟩)
        go_ret
        rw [(unhide HBAD) (unhide HF)]
        exact ⟨rfl, rfl⟩
      · by_cases h1 : nn ≤ y
        · have HF := hide (show hasM ns y = false by unfold hasM; exact decide_eq_false (by have := unhide HNN; omega))
          go_wp2_with (go_at_call 12; refine (unhide HL).mono ?_; rintro e w' ⟨rfl, rfl⟩)
          go_ret
          rw [(unhide HBAD) (unhide HF)]
          exact ⟨rfl, rfl⟩
        · have HF := hide (show hasM ns y = true by unfold hasM; exact decide_eq_true (by have := unhide HNN; omega))
          go_wp2_with (go_at_call 12; refine (unhide HL).mono ?_; rintro e w' ⟨rfl, rfl⟩)
          go_roundg (gk - 1)
          case measure => omega
          case rel =>
            refine ⟨j + 1, by omega, by go_num, rfl, fun i s hi hs => ?_⟩
            by_cases e : i = j
            · subst e; rw [unhide HY] at hs; cases hs; exact unhide HF
            · exact (unhide HN) i s (by omega) hs
    · have hjz : ¬ (j : Int) < (l.length : Int) := by omega
      obtain rfl : j = l.length := by omega
      go_wp2
      go_ret
      refine ⟨?_, rfl⟩
      have : (l.all fun k => hasM ns k) = true := by
        rw [List.all_eq_true]
        intro s hs
        obtain ⟨i, hi⟩ := List.getElem?_of_mem hs
        exact (unhide HN) i s (List.getElem?_eq_some_iff.1 hi).1 hi
      rw [this]
      rfl
end Go.Proofs.YtmkdnmkckipnaaaGreat
