/-
  Arenas told by plain nodes with their links, and the stacks over them: what the calls make of them.
-/
import Derived.Test.YtmllhebmaldgfaaJB
import Derived.Test.YtmllhebmaldgfaaJC
import Derived.Test.YtmllhebmaldgfaaQRe
namespace Go.Proofs.Ytmllhebmaldgfaa
open Go.RowKit

def keysO (os : List OneM) : List Key := os.map keyO
theorem Sim.keys {ns : List NodeM} {os : List OneM} (h : Sim ns os) : ns.map keyN = keysO os := by
  unfold keysO
  refine List.ext_getElem? fun i => ?_
  rw [List.getElem?_map, List.getElem?_map]
  rcases ho : os[i]? with _ | o
  · have : ns[i]? = none := by
      rw [List.getElem?_eq_none_iff] at ho ⊢
      rw [h.len]; exact ho
    rw [this]; rfl
  · obtain ⟨n, hn, sm⟩ := h.get ho
    rw [hn]
    simp only [Option.map_some, keyN, keyO, sm.kind, sm.space, sm.name]
theorem keysO_len (os : List OneM) : (keysO os).length = os.length := by simp [keysO]

def aO (base bA : Nat) (os : List OneM) : Ob base := ⟨fun w F => ∃ ns, ArS w base bA ns F ∧ Sim ns os, fun _ _ _ ⟨_, h, _⟩ hk => h.lt hk, fun _ _ _ _ ⟨ns, h, hs⟩ hm hG => ⟨ns, h.mod hm hG, hs⟩⟩
def rO (base bR : Nat) (os : List OneM) : Ob base := ⟨fun w F => RfS w base bR os F, fun _ _ _ h hk => h.lt hk, fun _ _ _ _ h hm hG => h.mod hm hG⟩
def rsO (base bW bR : Nat) (L : List Int) : Ob base := ⟨fun w F => RstS w base bW bR L F, fun _ _ _ h hk => h.lt hk, fun _ _ _ _ h hm hG => h.mod hm hG⟩

section
variable {w wx : World} {obs : List (Ob w.heap.size)} {i j bA bR bK bW : Nat} {os : List OneM} {L : List Int}
theorem Env.a (h : Env w wx obs) (hi : obs[i]? = some (aO _ bA os)) : ∃ ns F, ArS wx w.heap.size bA ns F ∧ Sim ns os ∧ ∀ w2 os2, USim F wx w2 w.heap.size bA os2 → Env w w2 (obs.set i (aO _ bA os2)) := by
  obtain ⟨F, ⟨ns, ha, hs⟩, _, hk⟩ := h.upd hi
  refine ⟨ns, F, ha, hs, fun w2 os2 hu => ?_⟩
  obtain ⟨ms, ⟨F', h1, h2, h3⟩, h4⟩ := hu
  exact hk w2 (aO _ bA os2) F' ⟨ms, h1, h4⟩ h2 h3
theorem Env.r (h : Env w wx obs) (hi : obs[i]? = some (rO _ bR os)) : ∃ F, RfS wx w.heap.size bR os F ∧ ∀ w2 os2, URf F wx w2 w.heap.size bR os2 → Env w w2 (obs.set i (rO _ bR os2)) := by
  obtain ⟨F, ho, _, hk⟩ := h.upd hi
  refine ⟨F, ho, fun w2 k2 hu => ?_⟩
  obtain ⟨F', h1, h2, h3⟩ := hu
  exact hk w2 (rO _ bR k2) F' h1 h2 h3
theorem Env.as (h : Env w wx obs) (hi : obs[i]? = some (aO _ bA os)) (hj : obs[j]? = some (stOb _ bK bA (keysO os) L)) (hij : i ≠ j) :
    ∃ FA F, ArK wx w.heap.size bA (keysO os) FA ∧ StkS wx w.heap.size bK bA (elOf (keysO os)) L F ∧ ∀ w2 L2, UpdS F wx w2 w.heap.size bK bA (elOf (keysO os)) L2 → Env w w2 (obs.set j (stOb _ bK bA (keysO os) L2)) := by
  obtain ⟨F, ho, hd, hk⟩ := h.upd hj
  obtain ⟨FA, ⟨ns, ha, hs⟩, hdis⟩ := hd i _ hij hi
  refine ⟨FA, F, ⟨ns, ha, hs.keys⟩, ho, fun w2 L2 hu => ?_⟩
  obtain ⟨F', h1, h2, h3⟩ := hu
  exact hk w2 (stOb _ bK bA (keysO os) L2) F' h1 h2 h3
theorem Env.rs (h : Env w wx obs) (hi : obs[i]? = some (rO _ bR os)) (hj : obs[j]? = some (rsO _ bW bR L)) (hij : i ≠ j) :
    ∃ FA F, RfK wx w.heap.size bR (keysO os) FA ∧ RstS wx w.heap.size bW bR L F ∧ ∀ w2 L2, UpdW F wx w2 w.heap.size bW bR L2 → Env w w2 (obs.set j (rsO _ bW bR L2)) := by
  obtain ⟨F, ho, hd, hk⟩ := h.upd hj
  obtain ⟨FA, ha, hdis⟩ := hd i _ hij hi
  refine ⟨FA, F, ⟨os, ha, rfl⟩, ho, fun w2 L2 hu => ?_⟩
  obtain ⟨F', h1, h2, h3⟩ := hu
  exact hk w2 (rsO _ bW bR L2) F' h1 h2 h3

theorem anew_any (h : Env w wx obs) : Calls Try.prog 26 #[] wx fun e w' => ∃ bA, e = .returned (.pointer (some ⟨bA, 0, none⟩)) ∧ Env w w' (obs ++ [aO _ bA [oneM 0]]) := by
  refine (new_any wx w.heap.size h.bel.size).mono ?_
  rintro e w' ⟨F, rfl, h1, h2, h3⟩
  exact ⟨_, rfl, h.add h2 (o := aO _ _ _) ⟨_, h1, Sim.new⟩ h3⟩
theorem arnew_any (h : Env w wx obs) : Calls Try.prog 35 #[] wx fun e w' => ∃ bR, e = .returned (.pointer (some ⟨bR, 0, none⟩)) ∧ Env w w' (obs ++ [rO _ bR [oneM 0]]) := by
  refine (refNew_any wx w.heap.size h.bel.size).mono ?_
  rintro e w' ⟨bR, g, cap, rfl, h1, h2, h3, h4⟩
  refine ⟨bR, rfl, h.add h2 (o := rO _ bR _) (F := footR bR g [oneR 0]) ⟨g, cap, _, h1, rfl, fun _ => Iff.rfl⟩ ?_⟩
  rintro k (rfl | rfl | ⟨r, hr, hk⟩)
  · exact h3
  · exact h4
  · simp at hr; subst hr; simp [oneR, blk] at hk
theorem aelem_any (h : Env w wx obs) (hi : obs[i]? = some (aO _ bA os)) (sp : Int) (nm : ByteArray) :
    Calls Try.prog 27 #[.pointer (some ⟨bA, 0, none⟩), .int .i64 sp, .string nm, .slice none 0 0] wx fun e w' => e = .returned (.tuple #[.int .i64 (elemO os sp nm []).2.1, .int .i64 (elemO os sp nm []).2.2]) ∧ Env w w' (obs.set i (aO _ bA (elemO os sp nm []).1)) := by
  obtain ⟨ns, F, h1, hs, h2⟩ := h.a hi
  exact (element_sim h1 hs sp nm none 0 [] (attrs_none _) (by simp)).mono fun _ _ ⟨a, b⟩ => ⟨a, h2 _ _ b⟩
theorem arelem_any (h : Env w wx obs) (hi : obs[i]? = some (rO _ bR os)) (sp : Int) (nm : ByteArray) :
    Calls Try.prog 36 #[.pointer (some ⟨bR, 0, none⟩), .int .i64 sp, .string nm, .slice none 0 0] wx fun e w' => e = .returned (.tuple #[.int .i64 (elemO os sp nm []).2.1, .int .i64 (elemO os sp nm []).2.2]) ∧ Env w w' (obs.set i (rO _ bR (elemO os sp nm []).1)) := by
  obtain ⟨F, ha, h2⟩ := h.r hi
  have key : Calls Try.prog 36 #[.pointer (some ⟨bR, 0, none⟩), .int .i64 sp, .string nm, .slice none 0 0] wx fun e w' =>
      e = .returned (.tuple #[.int .i64 (elemO os sp nm []).2.1, .int .i64 (elemO os sp nm []).2.2]) ∧ URf F wx w' w.heap.size bR (elemO os sp nm []).1 := by
    by_cases h1 : sp < 0 ∨ 2 < sp
    · have e : elemO os sp nm [] = (os, 0, 1) := by unfold elemO; rw [if_pos h1]
      rw [e]
      exact (refElement_space sp nm _ h1).mono fun e w' ⟨h1, h2⟩ => ⟨h1, ha.upd (h2 ▸ Below.refl _ _)⟩
    · cases h2 : longS nm with
      | true =>
        have e : elemO os sp nm [] = (os, 0, 2) := by unfold elemO; rw [if_neg h1, longE_nil, h2]; rfl
        rw [e]
        exact (refElement_many sp nm none 0 0 (by omega) (by simp [maxLen]) (.inr h2)).mono fun e w' ⟨h1, h2⟩ => ⟨h1, ha.upd (h2 ▸ Below.refl _ _)⟩
      | false => exact refElement_in ha sp nm none 0 [] (attrs_none _) (by omega) (by simp) h2
  exact key.mono fun _ _ ⟨a, b⟩ => ⟨a, h2 _ _ b⟩
theorem acomment_any (h : Env w wx obs) (hi : obs[i]? = some (aO _ bA os)) (s : ByteArray) :
    Calls Try.prog 33 #[.pointer (some ⟨bA, 0, none⟩), .string s] wx fun e w' => e = .returned (.tuple #[.int .i64 (dataO os 3 s).2.1, .int .i64 (dataO os 3 s).2.2]) ∧ Env w w' (obs.set i (aO _ bA (dataO os 3 s).1)) := by
  obtain ⟨ns, F, h1, hs, h2⟩ := h.a hi
  exact (comment_sim h1 hs s).mono fun _ _ ⟨a, b⟩ => ⟨a, h2 _ _ b⟩
theorem alink_any (h : Env w wx obs) (hi : obs[i]? = some (aO _ bA os)) (p c b : Int) :
    Calls Try.prog 80 #[.pointer (some ⟨bA, 0, none⟩), .int .i64 p, .int .i64 c, .int .i64 b] wx fun e w' => e = .returned (.int .i64 (linkE os p c b)) ∧ Env w w' (obs.set i (aO _ bA (linkR os p c b))) := by
  obtain ⟨ns, F, h1, hs, h2⟩ := h.a hi
  exact (link_sim h1 hs p c b).mono fun _ _ ⟨a, b⟩ => ⟨a, h2 _ _ b⟩
theorem aunlink_any (h : Env w wx obs) (hi : obs[i]? = some (aO _ bA os)) (c : Int) :
    Calls Try.prog 94 #[.pointer (some ⟨bA, 0, none⟩), .int .i64 c] wx fun e w' => e = .returned (.int .i64 (unlinkE os c)) ∧ Env w w' (obs.set i (aO _ bA (unlinkR os c))) := by
  obtain ⟨ns, F, h1, hs, h2⟩ := h.a hi
  exact (unlink_sim h1 hs c).mono fun _ _ ⟨a, b⟩ => ⟨a, h2 _ _ b⟩
theorem arlink_any (h : Env w wx obs) (hi : obs[i]? = some (rO _ bR os)) (hs : ∃ ns, Sim ns os) (p c b : Int) :
    Calls Try.prog 81 #[.pointer (some ⟨bR, 0, none⟩), .int .i64 p, .int .i64 c, .int .i64 b] wx fun e w' => e = .returned (.int .i64 (linkE os p c b)) ∧ Env w w' (obs.set i (rO _ bR (linkR os p c b))) := by
  obtain ⟨F, h1, h2⟩ := h.r hi
  obtain ⟨ns, hs⟩ := hs
  exact (refLink_sim h1 hs p c b).mono fun _ _ ⟨a, b⟩ => ⟨a, h2 _ _ b⟩
theorem Env.sim (h : Env w wx obs) (hi : obs[i]? = some (aO _ bA os)) : ∃ ns, Sim ns os := by
  obtain ⟨ns, F, _, hs, _⟩ := h.a hi
  exact ⟨ns, hs⟩
theorem alen_any (h : Env w wx obs) (hi : obs[i]? = some (aO _ bA os)) : Calls Try.prog 17 #[.pointer (some ⟨bA, 0, none⟩)] wx fun e w' => e = .returned (.int .i64 os.length) ∧ wx = w' := by
  obtain ⟨ns, F, h1, hs, _⟩ := h.a hi
  have := len_k (ks := keysO os) ⟨ns, h1, hs.keys⟩
  rw [keysO_len] at this
  exact this
theorem Env.mostA (h : Env w wx obs) (hi : obs[i]? = some (aO _ bA os)) : os.length ≤ 32768 ∧ 0 < os.length := by
  obtain ⟨ns, F, h1, hs, _⟩ := h.a hi
  have := ArK.most (ks := keysO os) ⟨ns, h1, hs.keys⟩
  rw [keysO_len] at this
  exact this
theorem asnew_any (h : Env w wx obs) (hi : obs[i]? = some (aO _ bA os)) :
    Calls Try.prog 10 #[.pointer (some ⟨bA, 0, none⟩)] wx fun e w' => ∃ bK, e = .returned (.tuple #[.pointer (some ⟨bK, 0, none⟩), .int .i64 0]) ∧ Env w w' (obs ++ [stOb _ bK bA (keysO os) []]) := by
  obtain ⟨ns, F, h1, hs, _⟩ := h.a hi
  refine (snew_any (ks := keysO os) ⟨ns, h1, hs.keys⟩ h.bel.size).mono ?_
  rintro e w' ⟨bK, F, rfl, h1, h2, h3⟩
  exact ⟨bK, rfl, h.add h2 (o := stOb _ bK bA (keysO os) []) (h1 _) h3⟩
theorem arsnew_any (h : Env w wx obs) :
    Calls Try.prog 11 #[.pointer (some ⟨bR, 0, none⟩)] wx fun e w' => ∃ bW, e = .returned (.pointer (some ⟨bW, 0, none⟩)) ∧ Env w w' (obs ++ [rsO _ bW bR []]) := by
  refine (rNew_any h.bel.size).mono ?_
  rintro e w' ⟨bK, F, rfl, h1, h2, h3⟩
  exact ⟨bK, rfl, h.add h2 (o := rsO _ bK bR []) h1 h3⟩
theorem apush_any (h : Env w wx obs) (hi : obs[i]? = some (aO _ bA os)) (hj : obs[j]? = some (stOb _ bK bA (keysO os) L)) (hij : i ≠ j) (hg : Good (keysO os) L) (id : Int) :
    Calls Try.prog 19 #[.pointer (some ⟨bK, 0, none⟩), .int .i64 id] wx fun e w' => e = .returned (.int .i64 (enterE (keysO os) L id)) ∧ Env w w' (obs.set j (stOb _ bK bA (keysO os) (pushL (keysO os) L id))) := by
  obtain ⟨FA, F, h1, h2, h4⟩ := h.as hi hj hij
  exact (spush_any h1 h2 hg id).mono fun _ _ ⟨a, b⟩ => ⟨a, h4 _ _ b⟩
theorem arpush_any (h : Env w wx obs) (hi : obs[i]? = some (rO _ bR os)) (hj : obs[j]? = some (rsO _ bW bR L)) (hij : i ≠ j) (hg : Good (keysO os) L) (id : Int) :
    Calls Try.prog 39 #[.pointer (some ⟨bW, 0, none⟩), .int .i64 id] wx fun e w' => e = .returned (.int .i64 (enterE (keysO os) L id)) ∧ Env w w' (obs.set j (rsO _ bW bR (pushL (keysO os) L id))) := by
  obtain ⟨FA, F, h1, h2, h4⟩ := h.rs hi hj hij
  exact (rPush_any h1 h2 hg id).mono fun _ _ ⟨a, b⟩ => ⟨a, h4 _ _ b⟩
theorem aremove_any (h : Env w wx obs) (hi : obs[i]? = some (aO _ bA os)) (hj : obs[j]? = some (stOb _ bK bA (keysO os) L)) (hij : i ≠ j) (hg : Good (keysO os) L) (id : Int) :
    Calls Try.prog 41 #[.pointer (some ⟨bK, 0, none⟩), .int .i64 id] wx fun e w' => e = .returned (.int .i64 (removeE L id)) ∧ Env w w' (obs.set j (stOb _ bK bA (keysO os) (removeL L id))) := by
  obtain ⟨FA, F, h1, h2, h4⟩ := h.as hi hj hij
  exact (sremove_any h2 hg ((Live.mk' h1 h2).few hg) id).mono fun _ _ ⟨a, b⟩ => ⟨a, h4 _ _ b⟩
end
end Go.Proofs.Ytmllhebmaldgfaa
