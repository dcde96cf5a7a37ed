/-
   
-/
import Derived.Test.YtkakncngkmoegaaGreatSZao
namespace Go.Proofs.YtkakncngkmoegaaGreat
open Go.RowKit

/-- An object: what it is to hold it in the blocks F. -/
structure Ob (base : Nat) where
  holds : World → (Nat → Prop) → Prop
  lt : ∀ w F k, holds w F → F k → base ≤ k ∧ k < w.heap.size
  keep : ∀ w w' F G, holds w F → Mod G w w' → (∀ k, F k → ¬ G k) → holds w' F

/-- The objects, made behind w, none part of another. -/
def Env (w wx : World) (obs : List (Ob w.heap.size)) : Prop :=
  Below w.heap.size w wx ∧ ∃ Fs : List (Nat → Prop), (∀ (i : Nat) o, obs[i]? = some o → ∃ F, Fs[i]? = some F ∧ o.holds wx F) ∧ ∀ (i j : Nat) F G, i ≠ j → Fs[i]? = some F → Fs[j]? = some G → ∀ k, F k → ¬ G k

section
variable {w wx w2 : World} {obs : List (Ob w.heap.size)}

theorem Env.bel (h : Env w wx obs) : Below w.heap.size w wx := h.1
theorem Env.start (w : World) : Env w w [] := ⟨Below.refl _ _, [], fun i o h => by simp at h, fun i j F G _ h => by simp at h⟩

theorem Env.more (h : Env w wx obs) (hb : Below wx.heap.size wx w2) : Env w w2 obs := by
  obtain ⟨h0, Fs, h1, h2⟩ := h
  refine ⟨h0.trans (hb.mono h0.size), Fs, fun i o hi => ?_, h2⟩
  obtain ⟨F, hF, ho⟩ := h1 i o hi
  exact ⟨F, hF, o.keep wx w2 F (fun _ => False) ho (Mod.of_below hb) (fun _ _ e => e)⟩

/-- One object is another; its blocks were written, or it has new ones. -/
theorem Env.upd (h : Env w wx obs) {i : Nat} {o : Ob w.heap.size} (hi : obs[i]? = some o) : ∃ F, o.holds wx F ∧ (∀ (j : Nat) o', j ≠ i → obs[j]? = some o' → ∃ G, o'.holds wx G ∧ ∀ k, G k → ¬ F k) ∧ ∀ w2 (o2 : Ob w.heap.size) F2, o2.holds w2 F2 → Mod F wx w2 → (∀ k, F2 k → F k ∨ wx.heap.size ≤ k) → Env w w2 (obs.set i o2) := by
  obtain ⟨h0, Fs, h1, h2⟩ := h
  obtain ⟨F, hF, ho⟩ := h1 i o hi
  refine ⟨F, ho, fun j o' hj hjo => ?_, fun w2 o2 F2 g1 g2 g3 => ?_⟩
  · obtain ⟨G, hG, hoG⟩ := h1 j o' hjo
    exact ⟨G, hoG, h2 j i G F hj hG hF⟩
  have hlt := (List.getElem?_eq_some_iff.1 hi).1
  have hltF := (List.getElem?_eq_some_iff.1 hF).1
  have old : ∀ (j : Nat) o', j ≠ i → obs[j]? = some o' → ∃ G, Fs[j]? = some G ∧ o'.holds w2 G ∧ ∀ k, G k → ¬ F2 k := by
    intro j o' hj hjo
    obtain ⟨G, hG, hoG⟩ := h1 j o' hjo
    refine ⟨G, hG, o'.keep wx w2 G F hoG g2 (h2 j i G F hj hG hF), fun k hk hk2 => ?_⟩
    rcases g3 k hk2 with h5 | h5
    · exact h2 j i G F hj hG hF k hk h5
    · have := (o'.lt wx G k hoG hk).2; omega
  refine ⟨h0.trans (g2.below h0.size (fun k hk => (o.lt wx F k ho hk).1)), (Fs.take obs.length).set i F2, fun j o' hj => ?_, fun j k G G' hjk hG hG' => ?_⟩
  · have hlj := (List.getElem?_eq_some_iff.1 hj).1
    rw [List.length_set] at hlj
    by_cases e : i = j
    · subst e
      rw [List.getElem?_set_self hlt] at hj
      cases hj
      exact ⟨F2, by rw [List.getElem?_set_self (by rw [List.length_take]; omega)], g1⟩
    · rw [List.getElem?_set_ne e] at hj
      obtain ⟨G, hG, hoG, _⟩ := old j o' (fun h => e h.symm) hj
      exact ⟨G, by rw [List.getElem?_set_ne e, List.getElem?_take, if_pos hlj]; exact hG, hoG⟩
  · have inn : ∀ (a : Nat) A, ((Fs.take obs.length).set i F2)[a]? = some A → (a = i ∧ A = F2) ∨ (a ≠ i ∧ Fs[a]? = some A ∧ a < obs.length) := by
      intro a A hA
      by_cases e : i = a
      · subst e
        rw [List.getElem?_set_self (by rw [List.length_take]; omega)] at hA
        cases hA
        exact .inl ⟨rfl, rfl⟩
      · rw [List.getElem?_set_ne e, List.getElem?_take] at hA
        split at hA
        · exact .inr ⟨fun h => e h.symm, hA, by assumption⟩
        · cases hA
    rcases inn j G hG with ⟨rfl, rfl⟩ | ⟨hj, hG1, hjl⟩
    · rcases inn k G' hG' with ⟨rfl, _⟩ | ⟨hk, hG2, hkl⟩
      · exact absurd rfl hjk
      · obtain ⟨G3, hG3, _, hd⟩ := old k _ hk (List.getElem?_eq_getElem hkl)
        rw [hG2] at hG3
        cases hG3
        intro x hx hx2
        exact hd x hx2 hx
    · rcases inn k G' hG' with ⟨rfl, rfl⟩ | ⟨hk, hG2, hkl⟩
      · obtain ⟨G3, hG3, _, hd⟩ := old j _ hj (List.getElem?_eq_getElem hjl)
        rw [hG1] at hG3
        cases hG3
        exact hd
      · exact h2 j k G G' hjk hG1 hG2

/-- A new object. -/
theorem Env.add (h : Env w wx obs) {o : Ob w.heap.size} {F : Nat → Prop} (hb : Below wx.heap.size wx w2) (ho : o.holds w2 F) (hF : ∀ k, F k → wx.heap.size ≤ k) : Env w w2 (obs ++ [o]) := by
  obtain ⟨h0, Fs, h1, h2⟩ := h
  have all : ∀ (i : Nat) o', obs[i]? = some o' → ∃ G, Fs[i]? = some G ∧ o'.holds w2 G ∧ ∀ k, G k → ¬ F k := by
    intro i o' hi
    obtain ⟨G, hG, hoG⟩ := h1 i o' hi
    exact ⟨G, hG, o'.keep wx w2 G (fun _ => False) hoG (Mod.of_below hb) (fun _ _ e => e), fun k hk hk2 => by
      have := (o'.lt wx G k hoG hk).2
      have := hF k hk2
      omega⟩
  have hlen : ∀ i, i < obs.length → i < Fs.length := by
    intro i hi
    obtain ⟨G, hG, _⟩ := all i _ (List.getElem?_eq_getElem hi)
    exact (List.getElem?_eq_some_iff.1 hG).1
  have hlF : (Fs.take obs.length).length = obs.length := by
    rw [List.length_take]
    rcases Nat.eq_zero_or_pos obs.length with e | e
    · omega
    · have := hlen (obs.length - 1) (by omega); omega
  refine ⟨h0.trans (hb.mono h0.size), Fs.take obs.length ++ [F], fun i o' hi => ?_, fun i j G G' hij hG hG' => ?_⟩
  · by_cases e : i < obs.length
    · rw [List.getElem?_append_left e] at hi
      obtain ⟨G, hG, hoG, _⟩ := all i o' hi
      exact ⟨G, by rw [List.getElem?_append_left (by omega), List.getElem?_take, if_pos e]; exact hG, hoG⟩
    · rw [List.getElem?_append_right (by omega)] at hi
      have := (List.getElem?_eq_some_iff.1 hi).1
      simp at this
      obtain rfl : i = obs.length := by omega
      simp at hi
      subst hi
      exact ⟨F, by rw [List.getElem?_append_right (by omega), hlF]; simp, ho⟩
  · have inn : ∀ (a : Nat) A, (Fs.take obs.length ++ [F])[a]? = some A → (a < obs.length ∧ Fs[a]? = some A) ∨ (a = obs.length ∧ A = F) := by
      intro a A hA
      by_cases e : a < obs.length
      · rw [List.getElem?_append_left (by omega), List.getElem?_take, if_pos e] at hA
        exact .inl ⟨e, hA⟩
      · rw [List.getElem?_append_right (by omega)] at hA
        have := (List.getElem?_eq_some_iff.1 hA).1
        simp at this
        obtain rfl : a = obs.length := by omega
        rw [hlF] at hA
        simp at hA
        exact .inr ⟨rfl, hA.symm⟩
    rcases inn i G hG with ⟨hi, hG1⟩ | ⟨rfl, rfl⟩
    · rcases inn j G' hG' with ⟨hj, hG2⟩ | ⟨rfl, rfl⟩
      · exact h2 i j G G' hij hG1 hG2
      · obtain ⟨G3, hG3, _, hd⟩ := all i _ (List.getElem?_eq_getElem hi)
        rw [hG1] at hG3
        cases hG3
        exact hd
    · rcases inn j G' hG' with ⟨hj, hG2⟩ | ⟨rfl, _⟩
      · obtain ⟨G3, hG3, _, hd⟩ := all j _ (List.getElem?_eq_getElem hj)
        rw [hG2] at hG3
        cases hG3
        intro x hx hx2
        exact hd x hx2 hx
      · exact absurd rfl hij

/-- Some of them, the first ones. -/
theorem Env.take (h : Env w wx obs) (n : Nat) : Env w wx (obs.take n) := by
  obtain ⟨h0, Fs, h1, h2⟩ := h
  refine ⟨h0, Fs, fun i o hi => h1 i o ?_, h2⟩
  rw [List.getElem?_take] at hi
  split at hi
  · exact hi
  · cases hi

end

def arOb (base bA : Nat) (ks : List Key) : Ob base := ⟨fun w F => ArK w base bA ks F, fun _ _ _ h hk => h.lt hk, fun _ _ _ _ h hm hG => h.mod hm hG⟩
def rfOb (base bR : Nat) (ks : List Key) : Ob base := ⟨fun w F => RfK w base bR ks F, fun _ _ _ h hk => h.lt hk, fun _ _ _ _ h hm hG => h.mod hm hG⟩
def stOb (base bK bA : Nat) (ks : List Key) (L : List Int) : Ob base := ⟨fun w F => StkS w base bK bA (elOf ks) L F, fun _ _ _ h hk => h.lt hk, fun _ _ _ _ h hm hG => h.mod hm hG⟩

section
variable {w wx : World} {obs : List (Ob w.heap.size)}
theorem Env.ar (h : Env w wx obs) {i bA : Nat} {ks : List Key} (hi : obs[i]? = some (arOb _ bA ks)) : ∃ F, ArK wx w.heap.size bA ks F ∧ ∀ w2 k2, UpdA F wx w2 w.heap.size bA k2 → Env w w2 (obs.set i (arOb _ bA k2)) := by
  obtain ⟨F, ho, _, hk⟩ := h.upd hi
  refine ⟨F, ho, fun w2 k2 hu => ?_⟩
  obtain ⟨F', h1, h2, h3⟩ := hu
  exact hk w2 (arOb _ bA k2) F' h1 h2 h3
theorem Env.rf (h : Env w wx obs) {i bR : Nat} {ks : List Key} (hi : obs[i]? = some (rfOb _ bR ks)) : ∃ F, RfK wx w.heap.size bR ks F ∧ ∀ w2 k2, UpdR F wx w2 w.heap.size bR k2 → Env w w2 (obs.set i (rfOb _ bR k2)) := by
  obtain ⟨F, ho, _, hk⟩ := h.upd hi
  refine ⟨F, ho, fun w2 k2 hu => ?_⟩
  obtain ⟨F', h1, h2, h3⟩ := hu
  exact hk w2 (rfOb _ bR k2) F' h1 h2 h3
/-- A stack and its arena. -/
theorem Env.two (h : Env w wx obs) {i j bK bA : Nat} {ks : List Key} {L : List Int} (hi : obs[i]? = some (arOb _ bA ks)) (hj : obs[j]? = some (stOb _ bK bA ks L)) (hij : i ≠ j) :
    ∃ FA F, ArK wx w.heap.size bA ks FA ∧ StkS wx w.heap.size bK bA (elOf ks) L F ∧ (∀ k, FA k → ¬ F k) ∧ ∀ w2 L2, UpdS F wx w2 w.heap.size bK bA (elOf ks) L2 → Env w w2 (obs.set j (stOb _ bK bA ks L2)) := by
  obtain ⟨F, ho, hd, hk⟩ := h.upd hj
  obtain ⟨FA, ha, hdis⟩ := hd i _ hij hi
  refine ⟨FA, F, ha, ho, hdis, fun w2 L2 hu => ?_⟩
  obtain ⟨F', h1, h2, h3⟩ := hu
  exact hk w2 (stOb _ bK bA ks L2) F' h1 h2 h3

theorem set_same {α : Type} {l : List α} {j : Nat} {o : α} (h : l[j]? = some o) : l.set j o = l := by
  apply List.ext_getElem?
  intro i
  by_cases e : j = i
  · subst e
    rw [List.getElem?_set_self (List.getElem?_eq_some_iff.1 h).1, h]
  · rw [List.getElem?_set_ne e]
theorem keyAt_more {ks t : List Key} {i : Int} {q : Key} (h : keyAt ks i = some q) : keyAt (ks ++ t) i = some q := by
  unfold keyAt at h ⊢
  split at h
  · rw [if_pos (by assumption), List.getElem?_append_left (List.getElem?_eq_some_iff.1 h).1]
    exact h
  · cases h
theorem elOf_more {ks t : List Key} {i : Int} {c : Cal} (h : elOf ks i = some c) : elOf (ks ++ t) i = some c := by
  cases hk : keyAt ks i with
  | none => rw [elOf_none hk] at h; cases h
  | some q => rw [elOf_key (keyAt_more hk), ← elOf_key hk]; exact h
theorem StkS.mono {w : World} {base bK bA : Nat} {el el2 : Int → Option Cal} {L : List Int} {F : Nat → Prop} (h : StkS w base bK bA el L F) (hm : ∀ i c, el i = some c → el2 i = some c) : StkS w base bK bA el2 L F := by
  obtain ⟨bP, bM, p, v, ms, h1, hc, e, hF⟩ := h
  exact ⟨bP, bM, p, v, ms, h1, hc.mono hm, e, hF⟩
/-- The arena has more nodes: the stack is one of them all. -/
theorem Env.stay (h : Env w wx obs) {j bK bA : Nat} {ks k2 : List Key} {L : List Int} (hj : obs[j]? = some (stOb _ bK bA ks L)) (hk : ∃ t, k2 = ks ++ t) : Env w wx (obs.set j (stOb _ bK bA k2 L)) := by
  obtain ⟨t, rfl⟩ := hk
  obtain ⟨F, ho, _, hk⟩ := h.upd hj
  exact hk wx (stOb _ bK bA (ks ++ t) L) F (StkS.mono ho fun i c hc => elOf_more hc) (Mod.of_below (Below.refl _ _)) (fun k hk => .inl hk)

theorem env_new (h : Env w wx obs) : Calls Tryz.prog 22 #[] wx fun e w' => ∃ bA, e = .returned (.pointer (some ⟨bA, 0, none⟩)) ∧ Env w w' (obs ++ [arOb _ bA [⟨0, 0, emptyS⟩]]) := by
  refine (new_k wx w.heap.size h.bel.size).mono ?_
  rintro e w' ⟨bA, F, rfl, h1, h2, h3⟩
  exact ⟨bA, rfl, h.add h2 (o := arOb _ bA _) h1 h3⟩
theorem env_rnew (h : Env w wx obs) : Calls Tryz.prog 25 #[] wx fun e w' => ∃ bR, e = .returned (.pointer (some ⟨bR, 0, none⟩)) ∧ Env w w' (obs ++ [rfOb _ bR [⟨0, 0, emptyS⟩]]) := by
  refine (refNew_k wx w.heap.size h.bel.size).mono ?_
  rintro e w' ⟨bR, F, rfl, h1, h2, h3⟩
  exact ⟨bR, rfl, h.add h2 (o := rfOb _ bR _) h1 h3⟩
theorem env_elem (h : Env w wx obs) {i bA : Nat} {ks : List Key} (hi : obs[i]? = some (arOb _ bA ks)) (sp : Int) (nm : ByteArray) :
    Calls Tryz.prog 18 #[.pointer (some ⟨bA, 0, none⟩), .int .i64 sp, .string nm, .slice none 0 0] wx fun e w' => e = .returned (.tuple #[.int .i64 (elemK ks sp nm).2.1, .int .i64 (elemK ks sp nm).2.2]) ∧ Env w w' (obs.set i (arOb _ bA (elemK ks sp nm).1)) := by
  obtain ⟨F, h1, h2⟩ := h.ar hi
  exact (element_k h1 sp nm).mono fun _ _ ⟨a, b⟩ => ⟨a, h2 _ _ b⟩
theorem env_relem (h : Env w wx obs) {i bR : Nat} {ks : List Key} (hi : obs[i]? = some (rfOb _ bR ks)) (sp : Int) (nm : ByteArray) :
    Calls Tryz.prog 28 #[.pointer (some ⟨bR, 0, none⟩), .int .i64 sp, .string nm, .slice none 0 0] wx fun e w' => e = .returned (.tuple #[.int .i64 (elemK ks sp nm).2.1, .int .i64 (elemK ks sp nm).2.2]) ∧ Env w w' (obs.set i (rfOb _ bR (elemK ks sp nm).1)) := by
  obtain ⟨F, h1, h2⟩ := h.rf hi
  exact (refElement_k h1 sp nm).mono fun _ _ ⟨a, b⟩ => ⟨a, h2 _ _ b⟩
theorem env_snew (h : Env w wx obs) {i bA : Nat} {ks : List Key} (hi : obs[i]? = some (arOb _ bA ks)) :
    Calls Tryz.prog 23 #[.pointer (some ⟨bA, 0, none⟩)] wx fun e w' => ∃ bK, e = .returned (.tuple #[.pointer (some ⟨bK, 0, none⟩), .int .i64 0]) ∧ Env w w' (obs ++ [stOb _ bK bA ks []]) := by
  obtain ⟨F, h1, _⟩ := h.ar hi
  refine (snew_any h1 h.bel.size).mono ?_
  rintro e w' ⟨bK, F, rfl, h1, h2, h3⟩
  exact ⟨bK, rfl, h.add h2 (o := stOb _ bK bA ks []) (h1 _) h3⟩
theorem env_alen (h : Env w wx obs) {i bA : Nat} {ks : List Key} (hi : obs[i]? = some (arOb _ bA ks)) : Calls Tryz.prog 12 #[.pointer (some ⟨bA, 0, none⟩)] wx fun e w' => e = .returned (.int .i64 ks.length) ∧ wx = w' := by
  obtain ⟨F, h1, _⟩ := h.ar hi
  exact len_k h1
theorem Env.most (h : Env w wx obs) {i bA : Nat} {ks : List Key} (hi : obs[i]? = some (arOb _ bA ks)) : ks.length ≤ 32768 ∧ 0 < ks.length := by
  obtain ⟨F, h1, _⟩ := h.ar hi
  exact h1.most

section
variable {i j bK bA : Nat} {ks : List Key} {L : List Int}
theorem Env.live (h : Env w wx obs) (hi : obs[i]? = some (arOb _ bA ks)) (hj : obs[j]? = some (stOb _ bK bA ks L)) (hij : i ≠ j) : Live wx w.heap.size bK bA ks L := by
  obtain ⟨FA, F, h1, h2, _⟩ := h.two hi hj hij
  exact Live.mk' h1 h2
theorem env_push (h : Env w wx obs) (hi : obs[i]? = some (arOb _ bA ks)) (hj : obs[j]? = some (stOb _ bK bA ks L)) (hij : i ≠ j) (hg : Good ks L) (id : Int) :
    Calls Tryz.prog 20 #[.pointer (some ⟨bK, 0, none⟩), .int .i64 id] wx fun e w' => e = .returned (.int .i64 (enterE ks L id)) ∧ Env w w' (obs.set j (stOb _ bK bA ks (pushL ks L id))) := by
  obtain ⟨FA, F, h1, h2, _, h4⟩ := h.two hi hj hij
  exact (spush_any h1 h2 hg id).mono fun _ _ ⟨a, b⟩ => ⟨a, h4 _ _ b⟩
theorem env_pop (h : Env w wx obs) (hi : obs[i]? = some (arOb _ bA ks)) (hj : obs[j]? = some (stOb _ bK bA ks L)) (hij : i ≠ j) (hg : Good ks L) :
    Calls Tryz.prog 38 #[.pointer (some ⟨bK, 0, none⟩)] wx fun e w' => e = .returned (.int .i64 (topM L)) ∧ Env w w' (obs.set j (stOb _ bK bA ks (popL L))) := by
  obtain ⟨FA, F, h1, h2, _, h4⟩ := h.two hi hj hij
  exact (spop_any h2 hg ((Live.mk' h1 h2).few hg)).mono fun _ _ ⟨a, b⟩ => ⟨a, h4 _ _ b⟩
theorem env_remove (h : Env w wx obs) (hi : obs[i]? = some (arOb _ bA ks)) (hj : obs[j]? = some (stOb _ bK bA ks L)) (hij : i ≠ j) (hg : Good ks L) (id : Int) :
    Calls Tryz.prog 81 #[.pointer (some ⟨bK, 0, none⟩), .int .i64 id] wx fun e w' => e = .returned (.int .i64 (removeE L id)) ∧ Env w w' (obs.set j (stOb _ bK bA ks (removeL L id))) := by
  obtain ⟨FA, F, h1, h2, _, h4⟩ := h.two hi hj hij
  exact (sremove_any h2 hg ((Live.mk' h1 h2).few hg) id).mono fun _ _ ⟨a, b⟩ => ⟨a, h4 _ _ b⟩
theorem env_put (h : Env w wx obs) (hi : obs[i]? = some (arOb _ bA ks)) (hj : obs[j]? = some (stOb _ bK bA ks L)) (hij : i ≠ j) (hg : Good ks L) (at' id : Int) :
    Calls Tryz.prog 189 #[.pointer (some ⟨bK, 0, none⟩), .int .i64 at', .int .i64 id] wx fun e w' => e = .returned (.int .i64 (putE ks L at' id)) ∧ Env w w' (obs.set j (stOb _ bK bA ks (putL ks L at' id))) := by
  obtain ⟨FA, F, h1, h2, _, h4⟩ := h.two hi hj hij
  exact (sput_any h1 h2 hg at' id).mono fun _ _ ⟨a, b⟩ => ⟨a, h4 _ _ b⟩
theorem env_swap (h : Env w wx obs) (hi : obs[i]? = some (arOb _ bA ks)) (hj : obs[j]? = some (stOb _ bK bA ks L)) (hij : i ≠ j) (hg : Good ks L) (old id : Int) :
    Calls Tryz.prog 192 #[.pointer (some ⟨bK, 0, none⟩), .int .i64 old, .int .i64 id] wx fun e w' => e = .returned (.int .i64 (swapE ks L old id)) ∧ Env w w' (obs.set j (stOb _ bK bA ks (swapL ks L old id))) := by
  obtain ⟨FA, F, h1, h2, _, h4⟩ := h.two hi hj hij
  exact (sswap_any h1 h2 hg old id).mono fun _ _ ⟨a, b⟩ => ⟨a, h4 _ _ b⟩
theorem env_nodeScope (h : Env w wx obs) (hi : obs[i]? = some (arOb _ bA ks)) (hj : obs[j]? = some (stOb _ bK bA ks L)) (hij : i ≠ j) (hg : Good ks L) (id kind : Int) :
    Calls Tryz.prog 91 #[.pointer (some ⟨bK, 0, none⟩), .int .i64 id, .int .i64 kind] wx fun e w' => e = .returned (.bool (nodeScopeM ks L id kind)) ∧ Env w w' obs := by
  obtain ⟨FA, F, h1, h2, h3, h4⟩ := h.two hi hj hij
  refine (nodeScope_any h1 h2 h3 hg id kind).mono fun _ _ ⟨a, b⟩ => ⟨a, ?_⟩
  have := h4 _ _ b
  rwa [set_same hj] at this
theorem env_special (h : Env w wx obs) (hi : obs[i]? = some (arOb _ bA ks)) (hj : obs[j]? = some (stOb _ bK bA ks L)) (hij : i ≠ j) (id : Int) :
    Calls Tryz.prog 129 #[.pointer (some ⟨bK, 0, none⟩), .int .i64 id] wx fun e w' => e = .returned (.bool (specM ks id)) ∧ Env w w' obs := by
  obtain ⟨FA, F, h1, h2, h3, h4⟩ := h.two hi hj hij
  refine (sspecial_any h1 h2 id).mono fun _ _ ⟨a, b⟩ => ⟨a, ?_⟩
  have := h4 _ _ b
  rwa [set_same hj] at this
theorem env_len (h : Env w wx obs) (hj : obs[j]? = some (stOb _ bK bA ks L)) : Calls Tryz.prog 13 #[.pointer (some ⟨bK, 0, none⟩)] wx fun e w' => e = .returned (.int .i64 L.length) ∧ wx = w' := by
  obtain ⟨F, ho, _⟩ := h.upd hj
  exact slen_any ho
theorem env_at (h : Env w wx obs) (hj : obs[j]? = some (stOb _ bK bA ks L)) (i : Int) : Calls Tryz.prog 15 #[.pointer (some ⟨bK, 0, none⟩), .int .i64 i] wx fun e w' => e = .returned (.int .i64 (atM L i)) ∧ wx = w' := by
  obtain ⟨F, ho, _⟩ := h.upd hj
  exact sat_any ho i
theorem env_top (h : Env w wx obs) (hi : obs[i]? = some (arOb _ bA ks)) (hj : obs[j]? = some (stOb _ bK bA ks L)) (hij : i ≠ j) (hg : Good ks L) : Calls Tryz.prog 83 #[.pointer (some ⟨bK, 0, none⟩)] wx fun e w' => e = .returned (.int .i64 (topM L)) ∧ wx = w' := by
  obtain ⟨FA, F, h1, h2, _⟩ := h.two hi hj hij
  exact stop_any h2 (by have := (Live.mk' h1 h2).few hg; omega)
theorem env_find (h : Env w wx obs) (hi : obs[i]? = some (arOb _ bA ks)) (hj : obs[j]? = some (stOb _ bK bA ks L)) (hij : i ≠ j) (hg : Good ks L) (x : Int) : Calls Tryz.prog 89 #[.pointer (some ⟨bK, 0, none⟩), .int .i64 x] wx fun e w' => e = .returned (.int .i64 (findM L x)) ∧ wx = w' := by
  obtain ⟨FA, F, h1, h2, _⟩ := h.two hi hj hij
  exact sfind_any h2 (by have := (Live.mk' h1 h2).few hg; omega) hg.nodup x
end
end
end Go.Proofs.YtkakncngkmoegaaGreat

namespace Go.Proofs.YtkakncngkmoegaaGreat
open Go.RowKit

def pB : ByteArray := ⟨#[112]⟩
def ksN (n : Nat) : List Key := ⟨0, 0, emptyS⟩ :: List.replicate n ⟨1, 0, pB⟩
def upTo (n : Nat) : List Int := (List.range n).map fun (j : Nat) => (j : Int) + 1
theorem ksN_len (n : Nat) : (ksN n).length = n + 1 := by simp [ksN]
theorem upTo_len (n : Nat) : (upTo n).length = n := by simp [upTo]
theorem upTo_succ (n : Nat) : upTo (n + 1) = upTo n ++ [(n : Int) + 1] := by simp [upTo, List.range_succ]
theorem upTo_mem {n : Nat} {x : Int} : x ∈ upTo n ↔ 1 ≤ x ∧ x ≤ n := by
  unfold upTo
  rw [List.mem_map]
  constructor
  · rintro ⟨j, hj, rfl⟩
    have := List.mem_range.1 hj
    omega
  · rintro ⟨h1, h2⟩
    exact ⟨(x - 1).toNat, List.mem_range.2 (by omega), by omega⟩
theorem upTo_nodup (n : Nat) : (upTo n).Nodup := by
  induction n with
  | zero => simp [upTo]
  | succ n ih =>
    rw [upTo_succ, List.nodup_append]
    refine ⟨ih, by simp, ?_⟩
    intro a ha b hb e
    simp at hb
    subst hb e
    have := (upTo_mem.1 ha).2
    omega
theorem ksN_succ (n : Nat) : ksN n ++ [⟨1, 0, pB⟩] = ksN (n + 1) := by
  unfold ksN
  rw [List.replicate_succ']
  rfl
theorem elemK_p (n : Nat) (hn : n ≤ 100) : elemK (ksN n) 0 pB = (ksN (n + 1), (n : Int) + 1, 0) := by
  unfold elemK addK
  rw [if_neg (by omega), if_neg (by decide +kernel), if_neg (by decide +kernel), ksN_len, if_pos (by omega), ksN_succ]
  simp
theorem elOf_ksN {n : Nat} {x : Int} (h : 1 ≤ x ∧ x ≤ n) : (elOf (ksN n) x).isSome = true := by
  obtain ⟨i, rfl⟩ : ∃ i : Nat, x = (i : Int) + 1 := ⟨(x - 1).toNat, by omega⟩
  have : keyAt (ksN n) ((i : Int) + 1) = some ⟨1, 0, pB⟩ := by
    unfold keyAt
    rw [if_pos (by omega), show ((i : Int) + 1).toNat = i + 1 by omega]
    show (List.replicate n (⟨1, 0, pB⟩ : Key))[i]? = some _
    rw [List.getElem?_replicate, if_pos (by omega)]
  rw [elOf_key this]
  rfl
theorem good_N (n m : Nat) (h : m ≤ n) : Good (ksN n) (upTo m) := ⟨upTo_nodup m, fun x hx => elOf_ksN (by have := upTo_mem.1 hx; omega)⟩
theorem enter_new (n : Nat) : enterE (ksN (n + 1)) (upTo n) ((n : Int) + 1) = 0 := by
  unfold enterE
  rw [if_pos (elOf_ksN (by omega)), if_neg (fun h => by have := upTo_mem.1 h; omega)]
theorem enter_old (n : Nat) : enterE (ksN (n + 1)) (upTo (n + 1)) ((n : Int) + 1) = 1 := by
  unfold enterE
  rw [if_pos (elOf_ksN (by omega)), if_pos (upTo_mem.2 (by omega))]
theorem push_new (n : Nat) : pushL (ksN (n + 1)) (upTo n) ((n : Int) + 1) = upTo (n + 1) := by
  unfold pushL
  rw [if_pos (enter_new n), upTo_succ]
theorem push_old (n : Nat) : pushL (ksN (n + 1)) (upTo (n + 1)) ((n : Int) + 1) = upTo (n + 1) := by
  unfold pushL
  rw [enter_old, if_neg (by decide)]
theorem upTo_last (n : Nat) : (upTo (n + 1))[n]? = some ((n : Int) + 1) := by
  rw [upTo_succ, List.getElem?_append_right (by rw [upTo_len]; omega), upTo_len]
  simp
theorem find_new (n : Nat) : findM (upTo (n + 1)) ((n : Int) + 1) = n := by
  rw [findM, if_pos (upTo_mem.2 (by omega)), idxOf_at (upTo_nodup _) (upTo_last n)]
theorem top_upTo (n : Nat) : topM (upTo (n + 1)) = (n : Int) + 1 := by
  unfold topM
  rw [upTo_len, show (((n + 1 : Nat) : Int) - 1) = (n : Int) by omega]
  exact atM_in (upTo_last n)
theorem pop_upTo (n : Nat) : popL (upTo (n + 1)) = upTo n := by
  unfold popL
  rw [upTo_len, Nat.add_sub_cancel, upTo_succ, List.take_left' (upTo_len n)]
theorem find_gone (n : Nat) : findM (upTo n) ((n : Int) + 1) = -1 := findM_out (fun h => by have := upTo_mem.1 h; omega)
theorem enter_doc (n : Nat) (L : List Int) : enterE (ksN n) L 0 = 6 := by
  have : elOf (ksN n) 0 = none := by
    have hk : keyAt (ksN n) 0 = some ⟨0, 0, emptyS⟩ := rfl
    rw [elOf_key hk]
    rfl
  unfold enterE
  rw [this]
  rfl
end Go.Proofs.YtkakncngkmoegaaGreat

namespace Go.Proofs.YtkakncngkmoegaaGreat
open Go.RowKit

def xB : ByteArray := ⟨#[120]⟩
def ksOf (ks : List Key) (l : List Cal) : List Key := l.foldl (fun ks c => (elemK ks c.space c.name).1) ks
/-- The nodes of the arenas that are made of l. -/
def ksL (l : List Cal) : List Key := (textK (ksOf [⟨0, 0, emptyS⟩] (l.take 300)) xB).1
theorem ksOf_next {l : List Cal} {i : Nat} {c : Cal} (h : l[i]? = some c) : ksOf [⟨0, 0, emptyS⟩] (l.take (i + 1)) = (elemK (ksOf [⟨0, 0, emptyS⟩] (l.take i)) c.space c.name).1 := by
  obtain ⟨hlt, rfl⟩ := List.getElem?_eq_some_iff.1 h
  rw [List.take_succ_eq_append_getElem hlt, ksOf, List.foldl_append]
  rfl

end Go.Proofs.YtkakncngkmoegaaGreat

namespace Go.Proofs.YtkakncngkmoegaaGreat
open Go.RowKit

theorem reachI_mono {want bord bord' : Int → Bool} {L : List Int} (h : ∀ x, bord' x = true → bord x = true) : ∀ n, reachI want bord L n = true → reachI want bord' L n = true
  | 0, e => by simp [reachI] at e
  | n + 1, e => by
    rw [reachI] at e ⊢
    cases hx : L[n]? with
    | none => rw [hx] at e; cases e
    | some x =>
      rw [hx] at e
      simp only at e ⊢
      by_cases hw : want x = true
      · rw [if_pos hw]
      · rw [if_neg hw] at e ⊢
        by_cases hb : bord x = true
        · rw [if_pos hb] at e; cases e
        · rw [if_neg hb] at e
          rw [if_neg (fun hb' => hb (h x hb'))]
          exact reachI_mono h n e
theorem reachI_some {want bord : Int → Bool} {L : List Int} : ∀ n, reachI want bord L n = true → ∃ x ∈ L, want x = true
  | 0, e => by simp [reachI] at e
  | n + 1, e => by
    rw [reachI] at e
    cases hx : L[n]? with
    | none => rw [hx] at e; cases e
    | some x =>
      rw [hx] at e
      simp only at e
      by_cases hw : want x = true
      · exact ⟨x, List.mem_of_getElem? hx, hw⟩
      · rw [if_neg hw] at e
        split at e
        · cases e
        · exact reachI_some n e

theorem scope_five (ks : List Key) (S : List Int) (name : ByteArray) : scopeM ks S name 5 = false := rfl
theorem scope_neg (ks : List Key) (S : List Int) (name : ByteArray) : scopeM ks S name (-1) = false := rfl
theorem scope_list {ks : List Key} {S : List Int} {name : ByteArray} (h : scopeM ks S name 1 = true) : scopeM ks S name 0 = true := by
  unfold scopeM at *
  rw [if_neg (by omega)] at h ⊢
  refine reachI_mono (fun x hx => ?_) _ h
  have hx : plainM (calOf ks x) = true := hx
  show (plainM (calOf ks x) || _ || _) = true
  rw [hx]
  rfl
theorem scope_button {ks : List Key} {S : List Int} {name : ByteArray} (h : scopeM ks S name 2 = true) : scopeM ks S name 0 = true := by
  unfold scopeM at *
  rw [if_neg (by omega)] at h ⊢
  refine reachI_mono (fun x hx => ?_) _ h
  have hx : plainM (calOf ks x) = true := hx
  show (plainM (calOf ks x) || _) = true
  rw [hx]
  rfl
theorem tbl_bord (n : ByteArray) (h : hasT tblT n = true) : hasT bordT n = true := by
  unfold hasT at *
  rw [List.any_eq_true] at h ⊢
  obtain ⟨x, hx, e⟩ := h
  refine ⟨x, ?_, e⟩
  simp only [tblT, List.mem_cons, List.not_mem_nil, or_false] at hx
  simp only [bordT, List.mem_cons, List.not_mem_nil, or_false]
  rcases hx with rfl | rfl | rfl <;> simp
theorem scope_table {ks : List Key} {S : List Int} {name : ByteArray} (h : scopeM ks S name 0 = true) : scopeM ks S name 3 = true := by
  unfold scopeM at *
  rw [if_neg (by omega)] at h ⊢
  refine reachI_mono (fun x hx => ?_) _ h
  have hx : ((calOf ks x).space == 0 && hasT tblT (calOf ks x).name) = true := hx
  show (((calOf ks x).space == 0 && hasT bordT (calOf ks x).name) || _) = true
  simp only [Bool.and_eq_true] at hx
  rw [hx.1, tbl_bord _ hx.2]
  rfl

/-- The elements under n, in order. -/
def elsTo (ks : List Key) : Nat → List Int
  | 0 => []
  | n + 1 => if 1 ≤ n ∧ (elOf ks (n : Int)).isSome = true then elsTo ks n ++ [(n : Int)] else elsTo ks n
theorem elsTo_mem {ks : List Key} {x : Int} : ∀ {n : Nat}, x ∈ elsTo ks n → ∃ j : Nat, x = (j : Int) ∧ 1 ≤ j ∧ j < n ∧ (elOf ks x).isSome = true
  | 0, h => by simp [elsTo] at h
  | n + 1, h => by
    rw [elsTo] at h
    split at h
    · rename_i hc
      rcases List.mem_append.1 h with h | h
      · obtain ⟨j, e, h1, h2, h3⟩ := elsTo_mem h
        exact ⟨j, e, h1, by omega, h3⟩
      · simp at h
        subst h
        exact ⟨n, rfl, hc.1, by omega, hc.2⟩
    · obtain ⟨j, e, h1, h2, h3⟩ := elsTo_mem h
      exact ⟨j, e, h1, by omega, h3⟩
theorem elsTo_nodup (ks : List Key) : ∀ n, (elsTo ks n).Nodup
  | 0 => by simp [elsTo]
  | n + 1 => by
    rw [elsTo]
    split
    · rw [List.nodup_append]
      refine ⟨elsTo_nodup ks n, by simp, ?_⟩
      intro a ha b hb e
      simp at hb
      subst hb e
      obtain ⟨j, e, _, h2, _⟩ := elsTo_mem ha
      omega
    · exact elsTo_nodup ks n
theorem good_els (ks : List Key) (n : Nat) : Good ks (elsTo ks n) := ⟨elsTo_nodup ks n, fun _ hx => by
  obtain ⟨_, _, _, _, h⟩ := elsTo_mem hx
  exact h⟩
theorem els_yes {ks : List Key} {n : Nat} (h1 : 1 ≤ n) (h : (elOf ks (n : Int)).isSome = true) : enterE ks (elsTo ks n) (n : Int) = 0 ∧ pushL ks (elsTo ks n) (n : Int) = elsTo ks (n + 1) := by
  have e : enterE ks (elsTo ks n) (n : Int) = 0 := by
    unfold enterE
    rw [if_pos h, if_neg (fun hm => by obtain ⟨j, e, _, h2, _⟩ := elsTo_mem hm; omega)]
  exact ⟨e, by rw [pushL, if_pos e, elsTo, if_pos ⟨h1, h⟩]⟩
theorem els_no {ks : List Key} {n : Nat} (h : elOf ks (n : Int) = none) : elsTo ks (n + 1) = elsTo ks n := by
  rw [elsTo, if_neg (by rw [h]; simp)]
theorem els_last {ks : List Key} {n : Nat} (h1 : 1 ≤ n) (h : (elOf ks (n : Int)).isSome = true) : elsTo ks (n + 1) = elsTo ks n ++ [(n : Int)] := by rw [elsTo, if_pos ⟨h1, h⟩]

/-- Is one of these of that name? -/
def thereM (ks : List Key) (name : ByteArray) (S : List Int) : Bool := S.any fun x => namedM (calOf ks x) name
theorem thereM_snoc (ks : List Key) (name : ByteArray) (S : List Int) (x : Int) : thereM ks name (S ++ [x]) = (thereM ks name S || namedM (calOf ks x) name) := by simp [thereM]
theorem scope_there {ks : List Key} {S : List Int} {name : ByteArray} {k : Int} (h : scopeM ks S name k = true) : thereM ks name S = true := by
  unfold scopeM at h
  split at h
  · cases h
  · obtain ⟨x, hx, hw⟩ := reachI_some _ h
    exact List.any_eq_true.2 ⟨x, hx, hw⟩
theorem namedM_eq (c : Cal) (n : ByteArray) : namedM c n = (c.space == 0 && (c.name.toList == n.toList)) := by simp [namedM, amongM, hasT]

/-- A block of its own. -/
def blkOb (base K : Nat) (cs : Array Value) (t : TypeId) : Ob base := ⟨fun w F => base ≤ K ∧ w.heap[K]? = some (.cells cs t (0, 0)) ∧ ∀ k, F k ↔ k = K, fun _ _ k h hk => by
    have := (h.2.2 k).1 hk
    subst this
    exact ⟨h.1, lt_of_block h.2.1⟩, fun w w' F G h hm hG => ⟨h.1, (hm.block K (lt_of_block h.2.1) (hG K ((h.2.2 K).2 rfl))).trans h.2.1, h.2.2⟩⟩

section
variable {w wx : World} {obs : List (Ob w.heap.size)}
theorem Env.boxed (h : Env w wx obs) (cs : Array Value) (t : TypeId) : Env w (wx.alloc (.cells cs t)) (obs ++ [blkOb _ wx.heap.size cs t]) :=
  h.add (o := blkOb _ wx.heap.size cs t) (F := fun k => k = wx.heap.size) (below_new _ _) ⟨h.bel.size, heap_alloc_new wx _, fun _ => Iff.rfl⟩ (fun k hk => by omega)
theorem Env.block (h : Env w wx obs) {i K : Nat} {cs : Array Value} {t : TypeId} (hi : obs[i]? = some (blkOb _ K cs t)) : wx.heap[K]? = some (.cells cs t (0, 0)) := by
  obtain ⟨F, ho, _⟩ := h.upd hi
  exact ho.2.1
theorem env_node (h : Env w wx obs) {i bA : Nat} {ks : List Key} (hi : obs[i]? = some (arOb _ bA ks)) {id : Int} {q : Key} (hq : keyAt ks id = some q) :
    Calls Tryz.prog 14 #[.pointer (some ⟨bA, 0, none⟩), .int .i64 id] wx fun e w' => ∃ (n : NodeM) (ao : Option Addr) (m c : Nat), e = .returned (.tuple #[nodeV n (.slice ao m c), .int .i64 0]) ∧ keyN n = q ∧ Env w w' obs := by
  obtain ⟨F, h1, _⟩ := h.ar hi
  refine (node_k h1 hq).mono ?_
  rintro e w' ⟨n, ao, m, c, rfl, e2, hb⟩
  exact ⟨n, ao, m, c, rfl, e2, h.more hb⟩
end
end Go.Proofs.YtkakncngkmoegaaGreat
