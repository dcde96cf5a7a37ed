import Derived.Test.YtgmlngmfocdmhaaJB
import Derived.Test.YtgmlngmfocdmhaaJC
import Derived.Test.YtgmlngmfocdmhaaRe
/-
  Arenas told by plain nodes with their links, and the stacks over them: what the calls make of them.
-/
namespace Go.Proofs.Ytgmlngmfocdmhaa
open Go.RowKit

def keysO (os : List OneM) : List Key := os.map keyO
theorem Sim.keys {ns : List NodeM} {os : List OneM} (h : Sim ns os) : ns.map keyN = keysO os := by
  unfold keysO
  refine List.ext_getElem? fun i => ?_
  rw [List.getElem?_map, List.getElem?_map]
  rcases ho : os[i]? with _ | o
  · have : ns[i]? = none := by
      rw [List.getElem?_eq_none_iff] at ho ⊢
      rw [h.len]; exact ho
    rw [this]; rfl
  · obtain ⟨n, hn, sm⟩ := h.get ho
    rw [hn]
    simp only [Option.map_some, keyN, keyO, sm.kind, sm.space, sm.name]
theorem keysO_len (os : List OneM) : (keysO os).length = os.length := by simp [keysO]

def aO (base bA : Nat) (os : List OneM) : Ob base := ⟨fun w F => ∃ ns, ArS w base bA ns F ∧ Sim ns os, fun _ _ _ ⟨_, h, _⟩ hk => h.lt hk, fun _ _ _ _ ⟨ns, h, hs⟩ hm hG => ⟨ns, h.mod hm hG, hs⟩⟩
section
variable {w wx : World} {obs : List (Ob w.heap.size)} {i j bA bR bK bW : Nat} {os : List OneM} {L : List Int}
theorem Env.a (h : Env w wx obs) (hi : obs[i]? = some (aO _ bA os)) : ∃ ns F, ArS wx w.heap.size bA ns F ∧ Sim ns os ∧ ∀ w2 os2, USim F wx w2 w.heap.size bA os2 → Env w w2 (obs.set i (aO _ bA os2)) := by
  obtain ⟨F, ⟨ns, ha, hs⟩, _, hk⟩ := h.upd hi
  refine ⟨ns, F, ha, hs, fun w2 os2 hu => ?_⟩
  obtain ⟨ms, ⟨F', h1, h2, h3⟩, h4⟩ := hu
  exact hk w2 (aO _ bA os2) F' ⟨ms, h1, h4⟩ h2 h3
theorem anew_any (h : Env w wx obs) : Calls Try.prog 4 #[] wx fun e w' => ∃ bA, e = .returned (.pointer (some ⟨bA, 0, none⟩)) ∧ Env w w' (obs ++ [aO _ bA [oneM 0]]) := by
  refine (new_any wx w.heap.size h.bel.size).mono ?_
  rintro e w' ⟨F, rfl, h1, h2, h3⟩
  exact ⟨_, rfl, h.add h2 (o := aO _ _ _) ⟨_, h1, Sim.new⟩ h3⟩
theorem aelem_any (h : Env w wx obs) (hi : obs[i]? = some (aO _ bA os)) (sp : Int) (nm : ByteArray) :
    Calls Try.prog 5 #[.pointer (some ⟨bA, 0, none⟩), .int .i64 sp, .string nm, .slice none 0 0] wx fun e w' => e = .returned (.tuple #[.int .i64 (elemO os sp nm []).2.1, .int .i64 (elemO os sp nm []).2.2]) ∧ Env w w' (obs.set i (aO _ bA (elemO os sp nm []).1)) := by
  obtain ⟨ns, F, h1, hs, h2⟩ := h.a hi
  exact (element_sim h1 hs sp nm none 0 [] (attrs_none _) (by simp)).mono fun _ _ ⟨a, b⟩ => ⟨a, h2 _ _ b⟩
theorem alink_any (h : Env w wx obs) (hi : obs[i]? = some (aO _ bA os)) (p c b : Int) :
    Calls Try.prog 38 #[.pointer (some ⟨bA, 0, none⟩), .int .i64 p, .int .i64 c, .int .i64 b] wx fun e w' => e = .returned (.int .i64 (linkE os p c b)) ∧ Env w w' (obs.set i (aO _ bA (linkR os p c b))) := by
  obtain ⟨ns, F, h1, hs, h2⟩ := h.a hi
  exact (link_sim h1 hs p c b).mono fun _ _ ⟨a, b⟩ => ⟨a, h2 _ _ b⟩
theorem aunlink_any (h : Env w wx obs) (hi : obs[i]? = some (aO _ bA os)) (c : Int) :
    Calls Try.prog 37 #[.pointer (some ⟨bA, 0, none⟩), .int .i64 c] wx fun e w' => e = .returned (.int .i64 (unlinkE os c)) ∧ Env w w' (obs.set i (aO _ bA (unlinkR os c))) := by
  obtain ⟨ns, F, h1, hs, h2⟩ := h.a hi
  exact (unlink_sim h1 hs c).mono fun _ _ ⟨a, b⟩ => ⟨a, h2 _ _ b⟩
theorem Env.sim (h : Env w wx obs) (hi : obs[i]? = some (aO _ bA os)) : ∃ ns, Sim ns os := by
  obtain ⟨ns, F, _, hs, _⟩ := h.a hi
  exact ⟨ns, hs⟩
theorem alen_any (h : Env w wx obs) (hi : obs[i]? = some (aO _ bA os)) : Calls Try.prog 8 #[.pointer (some ⟨bA, 0, none⟩)] wx fun e w' => e = .returned (.int .i64 os.length) ∧ wx = w' := by
  obtain ⟨ns, F, h1, hs, _⟩ := h.a hi
  have := len_k (ks := keysO os) ⟨ns, h1, hs.keys⟩
  rw [keysO_len] at this
  exact this
theorem Env.mostA (h : Env w wx obs) (hi : obs[i]? = some (aO _ bA os)) : os.length ≤ 32768 ∧ 0 < os.length := by
  obtain ⟨ns, F, h1, hs, _⟩ := h.a hi
  have := ArK.most (ks := keysO os) ⟨ns, h1, hs.keys⟩
  rw [keysO_len] at this
  exact this
end
end Go.Proofs.Ytgmlngmfocdmhaa
