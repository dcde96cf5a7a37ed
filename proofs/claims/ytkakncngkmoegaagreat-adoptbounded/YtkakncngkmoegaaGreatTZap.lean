/-
   
-/
import Derived.Test.YtkakncngkmoegaaGreatSZao
namespace Go.Proofs.YtkakncngkmoegaaGreat
open Go.RowKit

/-- An object: what it is to hold it in the blocks F. -/
structure Ob (base : Nat) where
  holds : World → (Nat → Prop) → Prop
  lt : ∀ w F k, holds w F → F k → base ≤ k ∧ k < w.heap.size
  keep : ∀ w w' F G, holds w F → Mod G w w' → (∀ k, F k → ¬ G k) → holds w' F

/-- The objects, made behind w, none part of another. -/
def Env (w wx : World) (obs : List (Ob w.heap.size)) : Prop :=
  Below w.heap.size w wx ∧ ∃ Fs : List (Nat → Prop), (∀ (i : Nat) o, obs[i]? = some o → ∃ F, Fs[i]? = some F ∧ o.holds wx F) ∧ ∀ (i j : Nat) F G, i ≠ j → Fs[i]? = some F → Fs[j]? = some G → ∀ k, F k → ¬ G k

section
variable {w wx w2 : World} {obs : List (Ob w.heap.size)}

theorem Env.bel (h : Env w wx obs) : Below w.heap.size w wx := h.1
theorem Env.start (w : World) : Env w w [] := ⟨Below.refl _ _, [], fun i o h => by simp at h, fun i j F G _ h => by simp at h⟩

theorem Env.more (h : Env w wx obs) (hb : Below wx.heap.size wx w2) : Env w w2 obs := by
  obtain ⟨h0, Fs, h1, h2⟩ := h
  refine ⟨h0.trans (hb.mono h0.size), Fs, fun i o hi => ?_, h2⟩
  obtain ⟨F, hF, ho⟩ := h1 i o hi
  exact ⟨F, hF, o.keep wx w2 F (fun _ => False) ho (Mod.of_below hb) (fun _ _ e => e)⟩

/-- One object is another; its blocks were written, or it has new ones. -/
theorem Env.upd (h : Env w wx obs) {i : Nat} {o : Ob w.heap.size} (hi : obs[i]? = some o) : ∃ F, o.holds wx F ∧ (∀ (j : Nat) o', j ≠ i → obs[j]? = some o' → ∃ G, o'.holds wx G ∧ ∀ k, G k → ¬ F k) ∧ ∀ w2 (o2 : Ob w.heap.size) F2, o2.holds w2 F2 → Mod F wx w2 → (∀ k, F2 k → F k ∨ wx.heap.size ≤ k) → Env w w2 (obs.set i o2) := by
  obtain ⟨h0, Fs, h1, h2⟩ := h
  obtain ⟨F, hF, ho⟩ := h1 i o hi
  refine ⟨F, ho, fun j o' hj hjo => ?_, fun w2 o2 F2 g1 g2 g3 => ?_⟩
  · obtain ⟨G, hG, hoG⟩ := h1 j o' hjo
    exact ⟨G, hoG, h2 j i G F hj hG hF⟩
  have hlt := (List.getElem?_eq_some_iff.1 hi).1
  have hltF := (List.getElem?_eq_some_iff.1 hF).1
  have old : ∀ (j : Nat) o', j ≠ i → obs[j]? = some o' → ∃ G, Fs[j]? = some G ∧ o'.holds w2 G ∧ ∀ k, G k → ¬ F2 k := by
    intro j o' hj hjo
    obtain ⟨G, hG, hoG⟩ := h1 j o' hjo
    refine ⟨G, hG, o'.keep wx w2 G F hoG g2 (h2 j i G F hj hG hF), fun k hk hk2 => ?_⟩
    rcases g3 k hk2 with h5 | h5
    · exact h2 j i G F hj hG hF k hk h5
    · have := (o'.lt wx G k hoG hk).2; omega
  refine ⟨h0.trans (g2.below h0.size (fun k hk => (o.lt wx F k ho hk).1)), (Fs.take obs.length).set i F2, fun j o' hj => ?_, fun j k G G' hjk hG hG' => ?_⟩
  · have hlj := (List.getElem?_eq_some_iff.1 hj).1
    rw [List.length_set] at hlj
    by_cases e : i = j
    · subst e
      rw [List.getElem?_set_self hlt] at hj
      cases hj
      exact ⟨F2, by rw [List.getElem?_set_self (by rw [List.length_take]; omega)], g1⟩
    · rw [List.getElem?_set_ne e] at hj
      obtain ⟨G, hG, hoG, _⟩ := old j o' (fun h => e h.symm) hj
      exact ⟨G, by rw [List.getElem?_set_ne e, List.getElem?_take, if_pos hlj]; exact hG, hoG⟩
  · have inn : ∀ (a : Nat) A, ((Fs.take obs.length).set i F2)[a]? = some A → (a = i ∧ A = F2) ∨ (a ≠ i ∧ Fs[a]? = some A ∧ a < obs.length) := by
      intro a A hA
      by_cases e : i = a
      · subst e
        rw [List.getElem?_set_self (by rw [List.length_take]; omega)] at hA
        cases hA
        exact .inl ⟨rfl, rfl⟩
      · rw [List.getElem?_set_ne e, List.getElem?_take] at hA
        split at hA
        · exact .inr ⟨fun h => e h.symm, hA, by assumption⟩
        · cases hA
    rcases inn j G hG with ⟨rfl, rfl⟩ | ⟨hj, hG1, hjl⟩
    · rcases inn k G' hG' with ⟨rfl, _⟩ | ⟨hk, hG2, hkl⟩
      · exact absurd rfl hjk
      · obtain ⟨G3, hG3, _, hd⟩ := old k _ hk (List.getElem?_eq_getElem hkl)
        rw [hG2] at hG3
        cases hG3
        intro x hx hx2
        exact hd x hx2 hx
    · rcases inn k G' hG' with ⟨rfl, rfl⟩ | ⟨hk, hG2, hkl⟩
      · obtain ⟨G3, hG3, _, hd⟩ := old j _ hj (List.getElem?_eq_getElem hjl)
        rw [hG1] at hG3
        cases hG3
        exact hd
      · exact h2 j k G G' hjk hG1 hG2

/-- A new object. -/
theorem Env.add (h : Env w wx obs) {o : Ob w.heap.size} {F : Nat → Prop} (hb : Below wx.heap.size wx w2) (ho : o.holds w2 F) (hF : ∀ k, F k → wx.heap.size ≤ k) : Env w w2 (obs ++ [o]) := by
  obtain ⟨h0, Fs, h1, h2⟩ := h
  have all : ∀ (i : Nat) o', obs[i]? = some o' → ∃ G, Fs[i]? = some G ∧ o'.holds w2 G ∧ ∀ k, G k → ¬ F k := by
    intro i o' hi
    obtain ⟨G, hG, hoG⟩ := h1 i o' hi
    exact ⟨G, hG, o'.keep wx w2 G (fun _ => False) hoG (Mod.of_below hb) (fun _ _ e => e), fun k hk hk2 => by
      have := (o'.lt wx G k hoG hk).2
      have := hF k hk2
      omega⟩
  have hlen : ∀ i, i < obs.length → i < Fs.length := by
    intro i hi
    obtain ⟨G, hG, _⟩ := all i _ (List.getElem?_eq_getElem hi)
    exact (List.getElem?_eq_some_iff.1 hG).1
  have hlF : (Fs.take obs.length).length = obs.length := by
    rw [List.length_take]
    rcases Nat.eq_zero_or_pos obs.length with e | e
    · omega
    · have := hlen (obs.length - 1) (by omega); omega
  refine ⟨h0.trans (hb.mono h0.size), Fs.take obs.length ++ [F], fun i o' hi => ?_, fun i j G G' hij hG hG' => ?_⟩
  · by_cases e : i < obs.length
    · rw [List.getElem?_append_left e] at hi
      obtain ⟨G, hG, hoG, _⟩ := all i o' hi
      exact ⟨G, by rw [List.getElem?_append_left (by omega), List.getElem?_take, if_pos e]; exact hG, hoG⟩
    · rw [List.getElem?_append_right (by omega)] at hi
      have := (List.getElem?_eq_some_iff.1 hi).1
      simp at this
      obtain rfl : i = obs.length := by omega
      simp at hi
      subst hi
      exact ⟨F, by rw [List.getElem?_append_right (by omega), hlF]; simp, ho⟩
  · have inn : ∀ (a : Nat) A, (Fs.take obs.length ++ [F])[a]? = some A → (a < obs.length ∧ Fs[a]? = some A) ∨ (a = obs.length ∧ A = F) := by
      intro a A hA
      by_cases e : a < obs.length
      · rw [List.getElem?_append_left (by omega), List.getElem?_take, if_pos e] at hA
        exact .inl ⟨e, hA⟩
      · rw [List.getElem?_append_right (by omega)] at hA
        have := (List.getElem?_eq_some_iff.1 hA).1
        simp at this
        obtain rfl : a = obs.length := by omega
        rw [hlF] at hA
        simp at hA
        exact .inr ⟨rfl, hA.symm⟩
    rcases inn i G hG with ⟨hi, hG1⟩ | ⟨rfl, rfl⟩
    · rcases inn j G' hG' with ⟨hj, hG2⟩ | ⟨rfl, rfl⟩
      · exact h2 i j G G' hij hG1 hG2
      · obtain ⟨G3, hG3, _, hd⟩ := all i _ (List.getElem?_eq_getElem hi)
        rw [hG1] at hG3
        cases hG3
        exact hd
    · rcases inn j G' hG' with ⟨hj, hG2⟩ | ⟨rfl, _⟩
      · obtain ⟨G3, hG3, _, hd⟩ := all j _ (List.getElem?_eq_getElem hj)
        rw [hG2] at hG3
        cases hG3
        intro x hx hx2
        exact hd x hx2 hx
      · exact absurd rfl hij

/-- Some of them, the first ones. -/
theorem Env.take (h : Env w wx obs) (n : Nat) : Env w wx (obs.take n) := by
  obtain ⟨h0, Fs, h1, h2⟩ := h
  refine ⟨h0, Fs, fun i o hi => h1 i o ?_, h2⟩
  rw [List.getElem?_take] at hi
  split at hi
  · exact hi
  · cases hi

end

def arOb (base bA : Nat) (ks : List Key) : Ob base := ⟨fun w F => ArK w base bA ks F, fun _ _ _ h hk => h.lt hk, fun _ _ _ _ h hm hG => h.mod hm hG⟩
def rfOb (base bR : Nat) (ks : List Key) : Ob base := ⟨fun w F => RfK w base bR ks F, fun _ _ _ h hk => h.lt hk, fun _ _ _ _ h hm hG => h.mod hm hG⟩
def stOb (base bK bA : Nat) (ks : List Key) (L : List Int) : Ob base := ⟨fun w F => StkS w base bK bA (elOf ks) L F, fun _ _ _ h hk => h.lt hk, fun _ _ _ _ h hm hG => h.mod hm hG⟩

section
variable {w wx : World} {obs : List (Ob w.heap.size)}
theorem Env.ar (h : Env w wx obs) {i bA : Nat} {ks : List Key} (hi : obs[i]? = some (arOb _ bA ks)) : ∃ F, ArK wx w.heap.size bA ks F ∧ ∀ w2 k2, UpdA F wx w2 w.heap.size bA k2 → Env w w2 (obs.set i (arOb _ bA k2)) := by
  obtain ⟨F, ho, _, hk⟩ := h.upd hi
  refine ⟨F, ho, fun w2 k2 hu => ?_⟩
  obtain ⟨F', h1, h2, h3⟩ := hu
  exact hk w2 (arOb _ bA k2) F' h1 h2 h3
theorem Env.rf (h : Env w wx obs) {i bR : Nat} {ks : List Key} (hi : obs[i]? = some (rfOb _ bR ks)) : ∃ F, RfK wx w.heap.size bR ks F ∧ ∀ w2 k2, UpdR F wx w2 w.heap.size bR k2 → Env w w2 (obs.set i (rfOb _ bR k2)) := by
  obtain ⟨F, ho, _, hk⟩ := h.upd hi
  refine ⟨F, ho, fun w2 k2 hu => ?_⟩
  obtain ⟨F', h1, h2, h3⟩ := hu
  exact hk w2 (rfOb _ bR k2) F' h1 h2 h3
/-- A stack and its arena. -/
theorem Env.two (h : Env w wx obs) {i j bK bA : Nat} {ks : List Key} {L : List Int} (hi : obs[i]? = some (arOb _ bA ks)) (hj : obs[j]? = some (stOb _ bK bA ks L)) (hij : i ≠ j) :
    ∃ FA F, ArK wx w.heap.size bA ks FA ∧ StkS wx w.heap.size bK bA (elOf ks) L F ∧ (∀ k, FA k → ¬ F k) ∧ ∀ w2 L2, UpdS F wx w2 w.heap.size bK bA (elOf ks) L2 → Env w w2 (obs.set j (stOb _ bK bA ks L2)) := by
  obtain ⟨F, ho, hd, hk⟩ := h.upd hj
  obtain ⟨FA, ha, hdis⟩ := hd i _ hij hi
  refine ⟨FA, F, ha, ho, hdis, fun w2 L2 hu => ?_⟩
  obtain ⟨F', h1, h2, h3⟩ := hu
  exact hk w2 (stOb _ bK bA ks L2) F' h1 h2 h3

theorem keyAt_more {ks t : List Key} {i : Int} {q : Key} (h : keyAt ks i = some q) : keyAt (ks ++ t) i = some q := by
  unfold keyAt at h ⊢
  split at h
  · rw [if_pos (by assumption), List.getElem?_append_left (List.getElem?_eq_some_iff.1 h).1]
    exact h
  · cases h
theorem elOf_more {ks t : List Key} {i : Int} {c : Cal} (h : elOf ks i = some c) : elOf (ks ++ t) i = some c := by
  cases hk : keyAt ks i with
  | none => rw [elOf_none hk] at h; cases h
  | some q => rw [elOf_key (keyAt_more hk), ← elOf_key hk]; exact h
theorem StkS.mono {w : World} {base bK bA : Nat} {el el2 : Int → Option Cal} {L : List Int} {F : Nat → Prop} (h : StkS w base bK bA el L F) (hm : ∀ i c, el i = some c → el2 i = some c) : StkS w base bK bA el2 L F := by
  obtain ⟨bP, bM, p, v, ms, h1, hc, e, hF⟩ := h
  exact ⟨bP, bM, p, v, ms, h1, hc.mono hm, e, hF⟩
/-- The arena has more nodes: the stack is one of them all. -/
theorem Env.stay (h : Env w wx obs) {j bK bA : Nat} {ks k2 : List Key} {L : List Int} (hj : obs[j]? = some (stOb _ bK bA ks L)) (hk : ∃ t, k2 = ks ++ t) : Env w wx (obs.set j (stOb _ bK bA k2 L)) := by
  obtain ⟨t, rfl⟩ := hk
  obtain ⟨F, ho, _, hk⟩ := h.upd hj
  exact hk wx (stOb _ bK bA (ks ++ t) L) F (StkS.mono ho fun i c hc => elOf_more hc) (Mod.of_below (Below.refl _ _)) (fun k hk => .inl hk)

theorem Env.most (h : Env w wx obs) {i bA : Nat} {ks : List Key} (hi : obs[i]? = some (arOb _ bA ks)) : ks.length ≤ 32768 ∧ 0 < ks.length := by
  obtain ⟨F, h1, _⟩ := h.ar hi
  exact h1.most

section
variable {i j bK bA : Nat} {ks : List Key} {L : List Int}
theorem Env.live (h : Env w wx obs) (hi : obs[i]? = some (arOb _ bA ks)) (hj : obs[j]? = some (stOb _ bK bA ks L)) (hij : i ≠ j) : Live wx w.heap.size bK bA ks L := by
  obtain ⟨FA, F, h1, h2, _⟩ := h.two hi hj hij
  exact Live.mk' h1 h2
theorem env_len (h : Env w wx obs) (hj : obs[j]? = some (stOb _ bK bA ks L)) : Calls Tryz.prog 13 #[.pointer (some ⟨bK, 0, none⟩)] wx fun e w' => e = .returned (.int .i64 L.length) ∧ wx = w' := by
  obtain ⟨F, ho, _⟩ := h.upd hj
  exact slen_any ho
theorem env_at (h : Env w wx obs) (hj : obs[j]? = some (stOb _ bK bA ks L)) (i : Int) : Calls Tryz.prog 15 #[.pointer (some ⟨bK, 0, none⟩), .int .i64 i] wx fun e w' => e = .returned (.int .i64 (atM L i)) ∧ wx = w' := by
  obtain ⟨F, ho, _⟩ := h.upd hj
  exact sat_any ho i
end
end
end Go.Proofs.YtkakncngkmoegaaGreat

namespace Go.Proofs.YtkakncngkmoegaaGreat
open Go.RowKit

end Go.Proofs.YtkakncngkmoegaaGreat

namespace Go.Proofs.YtkakncngkmoegaaGreat
open Go.RowKit

end Go.Proofs.YtkakncngkmoegaaGreat

namespace Go.Proofs.YtkakncngkmoegaaGreat
open Go.RowKit

theorem namedM_eq (c : Cal) (n : ByteArray) : namedM c n = (c.space == 0 && (c.name.toList == n.toList)) := by simp [namedM, amongM, hasT]

/-- A block of its own. -/
def blkOb (base K : Nat) (cs : Array Value) (t : TypeId) : Ob base := ⟨fun w F => base ≤ K ∧ w.heap[K]? = some (.cells cs t (0, 0)) ∧ ∀ k, F k ↔ k = K, fun _ _ k h hk => by
    have := (h.2.2 k).1 hk
    subst this
    exact ⟨h.1, lt_of_block h.2.1⟩, fun w w' F G h hm hG => ⟨h.1, (hm.block K (lt_of_block h.2.1) (hG K ((h.2.2 K).2 rfl))).trans h.2.1, h.2.2⟩⟩

section
variable {w wx : World} {obs : List (Ob w.heap.size)}
theorem Env.boxed (h : Env w wx obs) (cs : Array Value) (t : TypeId) : Env w (wx.alloc (.cells cs t)) (obs ++ [blkOb _ wx.heap.size cs t]) :=
  h.add (o := blkOb _ wx.heap.size cs t) (F := fun k => k = wx.heap.size) (below_new _ _) ⟨h.bel.size, heap_alloc_new wx _, fun _ => Iff.rfl⟩ (fun k hk => by omega)
theorem Env.block (h : Env w wx obs) {i K : Nat} {cs : Array Value} {t : TypeId} (hi : obs[i]? = some (blkOb _ K cs t)) : wx.heap[K]? = some (.cells cs t (0, 0)) := by
  obtain ⟨F, ho, _⟩ := h.upd hi
  exact ho.2.1
end
end Go.Proofs.YtkakncngkmoegaaGreat
