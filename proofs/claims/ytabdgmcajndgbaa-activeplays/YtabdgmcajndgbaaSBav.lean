/-
  Several objects in memory, none part of another: arenas, lists, blocks; what a call on one of them does to all. Package active: an entry taken out, an entry put in at a place.
-/
import Derived.Test.YtabdgmcajndgbaaSBau
namespace Go.Proofs.Ytabdgmcajndgbaa
open Go.RowKit

/-- An object: what it is to hold it in the blocks F. -/
structure Ob (base : Nat) where
  holds : World → (Nat → Prop) → Prop
  lt : ∀ w F k, holds w F → F k → base ≤ k ∧ k < w.heap.size
  keep : ∀ w w' F G, holds w F → Mod G w w' → (∀ k, F k → ¬ G k) → holds w' F

/-- The objects, made behind w, none part of another. -/
def Env (w wx : World) (obs : List (Ob w.heap.size)) : Prop :=
  Below w.heap.size w wx ∧ ∃ Fs : List (Nat → Prop), (∀ (i : Nat) o, obs[i]? = some o → ∃ F, Fs[i]? = some F ∧ o.holds wx F) ∧ ∀ (i j : Nat) F G, i ≠ j → Fs[i]? = some F → Fs[j]? = some G → ∀ k, F k → ¬ G k

section
variable {w wx w2 : World} {obs : List (Ob w.heap.size)}

theorem Env.bel (h : Env w wx obs) : Below w.heap.size w wx := h.1
theorem Env.start (w : World) : Env w w [] := ⟨Below.refl _ _, [], fun i o h => by simp at h, fun i j F G _ h => by simp at h⟩

theorem Env.more (h : Env w wx obs) (hb : Below wx.heap.size wx w2) : Env w w2 obs := by
  obtain ⟨h0, Fs, h1, h2⟩ := h
  refine ⟨h0.trans (hb.mono h0.size), Fs, fun i o hi => ?_, h2⟩
  obtain ⟨F, hF, ho⟩ := h1 i o hi
  exact ⟨F, hF, o.keep wx w2 F (fun _ => False) ho (Mod.of_below hb) (fun _ _ e => e)⟩

/-- One object is another; its blocks were written, or it has new ones. -/
theorem Env.upd (h : Env w wx obs) {i : Nat} {o : Ob w.heap.size} (hi : obs[i]? = some o) : ∃ F, o.holds wx F ∧ (∀ (j : Nat) o', j ≠ i → obs[j]? = some o' → ∃ G, o'.holds wx G ∧ ∀ k, G k → ¬ F k) ∧ ∀ w2 (o2 : Ob w.heap.size) F2, o2.holds w2 F2 → Mod F wx w2 → (∀ k, F2 k → F k ∨ wx.heap.size ≤ k) → Env w w2 (obs.set i o2) := by
  obtain ⟨h0, Fs, h1, h2⟩ := h
  obtain ⟨F, hF, ho⟩ := h1 i o hi
  refine ⟨F, ho, fun j o' hj hjo => ?_, fun w2 o2 F2 g1 g2 g3 => ?_⟩
  · obtain ⟨G, hG, hoG⟩ := h1 j o' hjo
    exact ⟨G, hoG, h2 j i G F hj hG hF⟩
  have hlt := (List.getElem?_eq_some_iff.1 hi).1
  have hltF := (List.getElem?_eq_some_iff.1 hF).1
  have old : ∀ (j : Nat) o', j ≠ i → obs[j]? = some o' → ∃ G, Fs[j]? = some G ∧ o'.holds w2 G ∧ ∀ k, G k → ¬ F2 k := by
    intro j o' hj hjo
    obtain ⟨G, hG, hoG⟩ := h1 j o' hjo
    refine ⟨G, hG, o'.keep wx w2 G F hoG g2 (h2 j i G F hj hG hF), fun k hk hk2 => ?_⟩
    rcases g3 k hk2 with h5 | h5
    · exact h2 j i G F hj hG hF k hk h5
    · have := (o'.lt wx G k hoG hk).2; omega
  refine ⟨h0.trans (g2.below h0.size (fun k hk => (o.lt wx F k ho hk).1)), (Fs.take obs.length).set i F2, fun j o' hj => ?_, fun j k G G' hjk hG hG' => ?_⟩
  · have hlj := (List.getElem?_eq_some_iff.1 hj).1
    rw [List.length_set] at hlj
    by_cases e : i = j
    · subst e
      rw [List.getElem?_set_self hlt] at hj
      cases hj
      exact ⟨F2, by rw [List.getElem?_set_self (by rw [List.length_take]; omega)], g1⟩
    · rw [List.getElem?_set_ne e] at hj
      obtain ⟨G, hG, hoG, _⟩ := old j o' (fun h => e h.symm) hj
      exact ⟨G, by rw [List.getElem?_set_ne e, List.getElem?_take, if_pos hlj]; exact hG, hoG⟩
  · have inn : ∀ (a : Nat) A, ((Fs.take obs.length).set i F2)[a]? = some A → (a = i ∧ A = F2) ∨ (a ≠ i ∧ Fs[a]? = some A ∧ a < obs.length) := by
      intro a A hA
      by_cases e : i = a
      · subst e
        rw [List.getElem?_set_self (by rw [List.length_take]; omega)] at hA
        cases hA
        exact .inl ⟨rfl, rfl⟩
      · rw [List.getElem?_set_ne e, List.getElem?_take] at hA
        split at hA
        · exact .inr ⟨fun h => e h.symm, hA, by assumption⟩
        · cases hA
    rcases inn j G hG with ⟨rfl, rfl⟩ | ⟨hj, hG1, hjl⟩
    · rcases inn k G' hG' with ⟨rfl, _⟩ | ⟨hk, hG2, hkl⟩
      · exact absurd rfl hjk
      · obtain ⟨G3, hG3, _, hd⟩ := old k _ hk (List.getElem?_eq_getElem hkl)
        rw [hG2] at hG3
        cases hG3
        intro x hx hx2
        exact hd x hx2 hx
    · rcases inn k G' hG' with ⟨rfl, rfl⟩ | ⟨hk, hG2, hkl⟩
      · obtain ⟨G3, hG3, _, hd⟩ := old j _ hj (List.getElem?_eq_getElem hjl)
        rw [hG1] at hG3
        cases hG3
        exact hd
      · exact h2 j k G G' hjk hG1 hG2

/-- A new object. -/
theorem Env.add (h : Env w wx obs) {o : Ob w.heap.size} {F : Nat → Prop} (hb : Below wx.heap.size wx w2) (ho : o.holds w2 F) (hF : ∀ k, F k → wx.heap.size ≤ k) : Env w w2 (obs ++ [o]) := by
  obtain ⟨h0, Fs, h1, h2⟩ := h
  have all : ∀ (i : Nat) o', obs[i]? = some o' → ∃ G, Fs[i]? = some G ∧ o'.holds w2 G ∧ ∀ k, G k → ¬ F k := by
    intro i o' hi
    obtain ⟨G, hG, hoG⟩ := h1 i o' hi
    exact ⟨G, hG, o'.keep wx w2 G (fun _ => False) hoG (Mod.of_below hb) (fun _ _ e => e), fun k hk hk2 => by
      have := (o'.lt wx G k hoG hk).2
      have := hF k hk2
      omega⟩
  have hlen : ∀ i, i < obs.length → i < Fs.length := by
    intro i hi
    obtain ⟨G, hG, _⟩ := all i _ (List.getElem?_eq_getElem hi)
    exact (List.getElem?_eq_some_iff.1 hG).1
  have hlF : (Fs.take obs.length).length = obs.length := by
    rw [List.length_take]
    rcases Nat.eq_zero_or_pos obs.length with e | e
    · omega
    · have := hlen (obs.length - 1) (by omega); omega
  refine ⟨h0.trans (hb.mono h0.size), Fs.take obs.length ++ [F], fun i o' hi => ?_, fun i j G G' hij hG hG' => ?_⟩
  · by_cases e : i < obs.length
    · rw [List.getElem?_append_left e] at hi
      obtain ⟨G, hG, hoG, _⟩ := all i o' hi
      exact ⟨G, by rw [List.getElem?_append_left (by omega), List.getElem?_take, if_pos e]; exact hG, hoG⟩
    · rw [List.getElem?_append_right (by omega)] at hi
      have := (List.getElem?_eq_some_iff.1 hi).1
      simp at this
      obtain rfl : i = obs.length := by omega
      simp at hi
      subst hi
      exact ⟨F, by rw [List.getElem?_append_right (by omega), hlF]; simp, ho⟩
  · have inn : ∀ (a : Nat) A, (Fs.take obs.length ++ [F])[a]? = some A → (a < obs.length ∧ Fs[a]? = some A) ∨ (a = obs.length ∧ A = F) := by
      intro a A hA
      by_cases e : a < obs.length
      · rw [List.getElem?_append_left (by omega), List.getElem?_take, if_pos e] at hA
        exact .inl ⟨e, hA⟩
      · rw [List.getElem?_append_right (by omega)] at hA
        have := (List.getElem?_eq_some_iff.1 hA).1
        simp at this
        obtain rfl : a = obs.length := by omega
        rw [hlF] at hA
        simp at hA
        exact .inr ⟨rfl, hA.symm⟩
    rcases inn i G hG with ⟨hi, hG1⟩ | ⟨rfl, rfl⟩
    · rcases inn j G' hG' with ⟨hj, hG2⟩ | ⟨rfl, rfl⟩
      · exact h2 i j G G' hij hG1 hG2
      · obtain ⟨G3, hG3, _, hd⟩ := all i _ (List.getElem?_eq_getElem hi)
        rw [hG1] at hG3
        cases hG3
        exact hd
    · rcases inn j G' hG' with ⟨hj, hG2⟩ | ⟨rfl, _⟩
      · obtain ⟨G3, hG3, _, hd⟩ := all j _ (List.getElem?_eq_getElem hj)
        rw [hG2] at hG3
        cases hG3
        intro x hx hx2
        exact hd x hx2 hx
      · exact absurd rfl hij

/-- Some of them, the first ones. -/
theorem Env.take (h : Env w wx obs) (n : Nat) : Env w wx (obs.take n) := by
  obtain ⟨h0, Fs, h1, h2⟩ := h
  refine ⟨h0, Fs, fun i o hi => h1 i o ?_, h2⟩
  rw [List.getElem?_take] at hi
  split at hi
  · exact hi
  · cases hi

end

def arOb (base bA : Nat) (ks : List Key) : Ob base := ⟨fun w F => ArK w base bA ks F, fun _ _ _ h hk => h.lt hk, fun _ _ _ _ h hm hG => h.mod hm hG⟩
def rfOb (base bR : Nat) (ks : List Key) : Ob base := ⟨fun w F => RfK w base bR ks F, fun _ _ _ h hk => h.lt hk, fun _ _ _ _ h hm hG => h.mod hm hG⟩
def liOb (base bL bA : Nat) (es : List EntM) : Ob base := ⟨fun w F => LiS w base bL bA es F, fun _ _ _ h hk => h.lt hk, fun _ _ _ _ h hm hG => h.mod hm hG⟩

section
variable {w wx : World} {obs : List (Ob w.heap.size)}
theorem Env.ar (h : Env w wx obs) {i bA : Nat} {ks : List Key} (hi : obs[i]? = some (arOb _ bA ks)) : ∃ F, ArK wx w.heap.size bA ks F ∧ ∀ w2 k2, UpdA F wx w2 w.heap.size bA k2 → Env w w2 (obs.set i (arOb _ bA k2)) := by
  obtain ⟨F, ho, _, hk⟩ := h.upd hi
  refine ⟨F, ho, fun w2 k2 hu => ?_⟩
  obtain ⟨F', h1, h2, h3⟩ := hu
  exact hk w2 (arOb _ bA k2) F' h1 h2 h3
theorem Env.rf (h : Env w wx obs) {i bR : Nat} {ks : List Key} (hi : obs[i]? = some (rfOb _ bR ks)) : ∃ F, RfK wx w.heap.size bR ks F ∧ ∀ w2 k2, UpdR F wx w2 w.heap.size bR k2 → Env w w2 (obs.set i (rfOb _ bR k2)) := by
  obtain ⟨F, ho, _, hk⟩ := h.upd hi
  refine ⟨F, ho, fun w2 k2 hu => ?_⟩
  obtain ⟨F', h1, h2, h3⟩ := hu
  exact hk w2 (rfOb _ bR k2) F' h1 h2 h3
theorem env_new (h : Env w wx obs) : Calls Try.prog 15 #[] wx fun e w' => ∃ bA, e = .returned (.pointer (some ⟨bA, 0, none⟩)) ∧ Env w w' (obs ++ [arOb _ bA [⟨0, 0, emptyS⟩]]) := by
  refine (new_k wx w.heap.size h.bel.size).mono ?_
  rintro e w' ⟨bA, F, rfl, h1, h2, h3⟩
  exact ⟨bA, rfl, h.add h2 (o := arOb _ bA _) h1 h3⟩
theorem env_rnew (h : Env w wx obs) : Calls Try.prog 16 #[] wx fun e w' => ∃ bR, e = .returned (.pointer (some ⟨bR, 0, none⟩)) ∧ Env w w' (obs ++ [rfOb _ bR [⟨0, 0, emptyS⟩]]) := by
  refine (refNew_k wx w.heap.size h.bel.size).mono ?_
  rintro e w' ⟨bR, F, rfl, h1, h2, h3⟩
  exact ⟨bR, rfl, h.add h2 (o := rfOb _ bR _) h1 h3⟩
theorem env_elem (h : Env w wx obs) {i bA : Nat} {ks : List Key} (hi : obs[i]? = some (arOb _ bA ks)) (sp : Int) (nm : ByteArray) :
    Calls Try.prog 17 #[.pointer (some ⟨bA, 0, none⟩), .int .i64 sp, .string nm, .slice none 0 0] wx fun e w' => e = .returned (.tuple #[.int .i64 (elemK ks sp nm).2.1, .int .i64 (elemK ks sp nm).2.2]) ∧ Env w w' (obs.set i (arOb _ bA (elemK ks sp nm).1)) := by
  obtain ⟨F, h1, h2⟩ := h.ar hi
  exact (element_k h1 sp nm).mono fun _ _ ⟨a, b⟩ => ⟨a, h2 _ _ b⟩
theorem env_relem (h : Env w wx obs) {i bR : Nat} {ks : List Key} (hi : obs[i]? = some (rfOb _ bR ks)) (sp : Int) (nm : ByteArray) :
    Calls Try.prog 18 #[.pointer (some ⟨bR, 0, none⟩), .int .i64 sp, .string nm, .slice none 0 0] wx fun e w' => e = .returned (.tuple #[.int .i64 (elemK ks sp nm).2.1, .int .i64 (elemK ks sp nm).2.2]) ∧ Env w w' (obs.set i (rfOb _ bR (elemK ks sp nm).1)) := by
  obtain ⟨F, h1, h2⟩ := h.rf hi
  exact (refElement_k h1 sp nm).mono fun _ _ ⟨a, b⟩ => ⟨a, h2 _ _ b⟩
theorem env_alen (h : Env w wx obs) {i bA : Nat} {ks : List Key} (hi : obs[i]? = some (arOb _ bA ks)) : Calls Try.prog 19 #[.pointer (some ⟨bA, 0, none⟩)] wx fun e w' => e = .returned (.int .i64 ks.length) ∧ wx = w' := by
  obtain ⟨F, h1, _⟩ := h.ar hi
  exact len_k h1
theorem Env.most (h : Env w wx obs) {i bA : Nat} {ks : List Key} (hi : obs[i]? = some (arOb _ bA ks)) : ks.length ≤ 32768 ∧ 0 < ks.length := by
  obtain ⟨F, h1, _⟩ := h.ar hi
  exact h1.most

end

/-- A block of its own. -/
def blkOb (base K : Nat) (cs : Array Value) (t : TypeId) : Ob base := ⟨fun w F => base ≤ K ∧ w.heap[K]? = some (.cells cs t (0, 0)) ∧ ∀ k, F k ↔ k = K, fun _ _ k h hk => by
    have := (h.2.2 k).1 hk
    subst this
    exact ⟨h.1, lt_of_block h.2.1⟩, fun w w' F G h hm hG => ⟨h.1, (hm.block K (lt_of_block h.2.1) (hG K ((h.2.2 K).2 rfl))).trans h.2.1, h.2.2⟩⟩

section
variable {w wx : World} {obs : List (Ob w.heap.size)}
theorem Env.boxed (h : Env w wx obs) (cs : Array Value) (t : TypeId) : Env w (wx.alloc (.cells cs t)) (obs ++ [blkOb _ wx.heap.size cs t]) :=
  h.add (o := blkOb _ wx.heap.size cs t) (F := fun k => k = wx.heap.size) (below_new _ _) ⟨h.bel.size, heap_alloc_new wx _, fun _ => Iff.rfl⟩ (fun k hk => by omega)
theorem Env.block (h : Env w wx obs) {i K : Nat} {cs : Array Value} {t : TypeId} (hi : obs[i]? = some (blkOb _ K cs t)) : wx.heap[K]? = some (.cells cs t (0, 0)) := by
  obtain ⟨F, ho, _⟩ := h.upd hi
  exact ho.2.1
theorem env_node (h : Env w wx obs) {i bA : Nat} {ks : List Key} (hi : obs[i]? = some (arOb _ bA ks)) {id : Int} {q : Key} (hq : keyAt ks id = some q) :
    Calls Try.prog 65 #[.pointer (some ⟨bA, 0, none⟩), .int .i64 id] wx fun e w' => ∃ (n : NodeM) (ao : Option Addr) (m c : Nat), e = .returned (.tuple #[nodeV n (.slice ao m c), .int .i64 0]) ∧ keyN n = q ∧ Env w w' obs := by
  obtain ⟨F, h1, _⟩ := h.ar hi
  refine (node_k h1 hq).mono ?_
  rintro e w' ⟨n, ao, m, c, rfl, e2, hb⟩
  exact ⟨n, ao, m, c, rfl, e2, h.more hb⟩
end

section
variable {w wx : World} {obs : List (Ob w.heap.size)} {i j bL bA : Nat} {ks : List Key} {es : List EntM}
theorem Env.li (h : Env w wx obs) (hj : obs[j]? = some (liOb _ bL bA es)) : ∃ F, LiS wx w.heap.size bL bA es F ∧ ∀ w2 es2, UpdL F wx w2 w.heap.size bL bA es2 → Env w w2 (obs.set j (liOb _ bL bA es2)) := by
  obtain ⟨F, ho, _, hk⟩ := h.upd hj
  refine ⟨F, ho, fun w2 es2 hu => ?_⟩
  obtain ⟨F', h1, h2, h3⟩ := hu
  exact hk w2 (liOb _ bL bA es2) F' h1 h2 h3
theorem env_lnew (h : Env w wx obs) (hi : obs[i]? = some (arOb _ bA ks)) :
    Calls Try.prog 5 #[.pointer (some ⟨bA, 0, none⟩)] wx fun e w' => ∃ bL, e = .returned (.tuple #[.pointer (some ⟨bL, 0, none⟩), .int .i64 0]) ∧ Env w w' (obs ++ [liOb _ bL bA []]) := by
  obtain ⟨F, h1, _⟩ := h.ar hi
  refine (lnew_any h1 h.bel.size).mono ?_
  rintro e w' ⟨bL, F, rfl, h1, h2, h3⟩
  exact ⟨bL, rfl, h.add h2 (o := liOb _ bL bA []) h1 h3⟩
theorem env_lpush (h : Env w wx obs) (hi : obs[i]? = some (arOb _ bA ks)) (hj : obs[j]? = some (liOb _ bL bA es)) (hl : es.length < 1000000000000) (id : Int) (t : TokM) (a : Option Addr) (cap : Nat) (ht : AttrsIn wx a t.attrs) (hn : t.attrs.length ≤ 2513169434916) :
    Calls Try.prog 20 #[.pointer (some ⟨bL, 0, none⟩), .int .i64 id, .agg (t.cells (.slice a t.attrs.length cap)).toArray] wx fun e w' => e = .returned (.int .i64 (enterE ks es id)) ∧ Env w w' (obs.set j (liOb _ bL bA (pushE ks es id t))) := by
  obtain ⟨FA, h1, _⟩ := h.ar hi
  obtain ⟨F, ⟨bW, v, ps, R, hm, hF⟩, h3⟩ := h.li hj
  exact (lpush_any h1 hm hF hl id t a cap ht hn).mono fun _ _ ⟨a, b⟩ => ⟨a, h3 _ _ b⟩
theorem env_lmark (h : Env w wx obs) (hj : obs[j]? = some (liOb _ bL bA es)) (hl : es.length < 1000000000000) :
    Calls Try.prog 23 #[.pointer (some ⟨bL, 0, none⟩)] wx fun e w' => e = .returned (.int .i64 0) ∧ Env w w' (obs.set j (liOb _ bL bA (es ++ [mark0]))) := by
  obtain ⟨F, ⟨bW, v, ps, R, hm, hF⟩, h3⟩ := h.li hj
  exact (lmark_any hm hF hl).mono fun _ _ ⟨a, b⟩ => ⟨a, h3 _ _ b⟩
theorem env_lclear (h : Env w wx obs) (hj : obs[j]? = some (liOb _ bL bA es)) (hl : es.length < 1000000000000) :
    Calls Try.prog 24 #[.pointer (some ⟨bL, 0, none⟩)] wx fun e w' => e = .returned (.int .i64 ((es.length : Int) - (leftN es : Int))) ∧ Env w w' (obs.set j (liOb _ bL bA (es.take (leftN es)))) := by
  obtain ⟨F, ⟨bW, v, ps, R, hm, hF⟩, h3⟩ := h.li hj
  exact (lclear_any hm hF hl).mono fun _ _ ⟨a, b⟩ => ⟨a, h3 _ _ b⟩
theorem env_llen (h : Env w wx obs) (hj : obs[j]? = some (liOb _ bL bA es)) : Calls Try.prog 8 #[.pointer (some ⟨bL, 0, none⟩)] wx fun e w' => e = .returned (.int .i64 es.length) ∧ wx = w' := by
  obtain ⟨F, ⟨bW, v, ps, R, hm, hF⟩, h3⟩ := h.li hj
  exact llen_any hm
theorem env_lfind (h : Env w wx obs) (hj : obs[j]? = some (liOb _ bL bA es)) (hl : es.length < 1000000000000) (id : Int) :
    Calls Try.prog 9 #[.pointer (some ⟨bL, 0, none⟩), .int .i64 id] wx fun e w' => e = .returned (.int .i64 (placeE es id)) ∧ Env w w' obs := by
  obtain ⟨F, ⟨bW, v, ps, R, hm, hF⟩, h3⟩ := h.li hj
  exact (lfind_any hm hl id).mono fun _ _ ⟨a, b⟩ => ⟨a, h.more b⟩
theorem env_llast (h : Env w wx obs) (hj : obs[j]? = some (liOb _ bL bA es)) (hl : es.length < 1000000000000) (nm : ByteArray) :
    Calls Try.prog 26 #[.pointer (some ⟨bL, 0, none⟩), .string nm] wx fun e w' => e = .returned (.int .i64 (lastE nm es es.length)) ∧ Env w w' obs := by
  obtain ⟨F, ⟨bW, v, ps, R, hm, hF⟩, h3⟩ := h.li hj
  refine (llast_any hm hl nm).mono ?_
  rintro e w' ⟨rfl, hb⟩
  exact ⟨by rw [lastP_E hm.row.len nm es.length (Nat.le_refl _)], h.more hb⟩
end
end Go.Proofs.Ytabdgmcajndgbaa

namespace Go.Proofs.Ytabdgmcajndgbaa
open Go.RowKit Go.Sort

theorem pairsN_lt {es : List EntM} {y : Nat × Int} : ∀ {n : Nat}, y ∈ pairsN es n → y.1 < n
  | 0, h => by simp [pairsN] at h
  | n + 1, h => by
    rw [pairsN] at h
    rcases List.mem_append.1 h with h | h
    · have := pairsN_lt h; omega
    · cases e : es[n]? with
      | none => rw [e] at h; simp at h
      | some x =>
        rw [e] at h
        simp only at h
        split at h
        · simp at h
        · simp only [List.mem_singleton] at h
          subst h
          exact Nat.lt_succ_self n
theorem findP_le (id : Int) (m : Nat) : ∀ l : List (Nat × Int), (∀ y ∈ l, y.1 < m) → findP id l < (m : Int)
  | [], _ => by simp [findP]; omega
  | (i, x) :: r, h => by
    have h1 := findP_le id m r (fun y hy => h y (List.mem_cons_of_mem _ hy))
    have h2 := h (i, x) (by simp)
    unfold findP
    split
    · simp only at h2; omega
    · exact h1
theorem placeE_lt (es : List EntM) (id : Int) : placeE es id < (es.length : Int) := findP_le id es.length _ (fun _ hy => pairsN_lt hy)

/-- What Remove answers. -/
def remA (es : List EntM) (id : Int) : Int := if 0 ≤ placeE es id then 0 else 6

section
variable {w : World} {base baseA bL bA bW : Nat} {ks : List Key} {F FA FL : Nat → Prop} {v : Value} {ps : List Nat} {es : List EntM}
set_option maxHeartbeats 2000000 in
theorem lremove_any (h : LiM w base bL bA bW F v ps es) (hF : ∀ k, FL k ↔ (k = bL ∨ F k)) (hl : es.length < 1000000000000) (id : Int) :
    Calls Try.prog 28 #[.pointer (some ⟨bL, 0, none⟩), .int .i64 id] w fun e w' => e = .returned (.int .i64 (remA es id)) ∧ UpdL FL w w' base bL bA (delE es (placeE es id)) := by
  have HM := hide (lmade_any h)
  have HFI : Hid (Calls Try.prog 9 #[.pointer (some ⟨bL, 0, none⟩), .int .i64 id] w fun e w' => e = .returned (.int .i64 (placeE es id)) ∧ Below w.heap.size w w') := hide (lfind_any h hl id)
  have HC : Hid (∀ W, Below w.heap.size w W → W.cell? ⟨bL, 1, none⟩ = some (.pointer (some ⟨bW, 0, none⟩))) := hide (fun W hb => ((h.below hb).cells).2)
  have HRE : Hid (∀ (W : World), Below w.heap.size w W → 0 ≤ placeE es id → Calls Try.prog 51 #[.pointer (some ⟨bW, 0, none⟩), .int .i64 (placeE es id)] W fun e w' => e = .returned (.tuple #[]) ∧ UpdL FL w w' base bL bA (delE es (placeE es id))) := hide (fun W hb h0 => by
    have h1 := placeE_lt es id
    rw [delE, if_pos h0]
    generalize placeE es id = s at *
    obtain ⟨n, rfl⟩ : ∃ n : Nat, s = n := ⟨s.toNat, by omega⟩
    exact (rremove_any (h.below hb).row n (by omega) hl).mono fun e w' ⟨a, b⟩ => ⟨a, UpdL.after hb ((h.below hb).upd hF b)⟩)
  have HNO : Hid (∀ (W : World), Below w.heap.size w W → ¬ 0 ≤ placeE es id → UpdL FL w W base bL bA (delE es (placeE es id))) := hide (fun W hb h0 => by
    rw [delE, if_neg h0]
    exact UpdL.after hb (LiS.upd (show LiS W base bL bA es FL from ⟨bW, v, ps, F, h.below hb, hF⟩) (Below.refl _ W)))
  clear h hF hl
  unfold remA
  generalize placeE es id = s at *
  by_cases hs : 0 ≤ s
  · rw [if_pos hs]
    have hs' : ¬ s < 0 := by omega
    go_enter Try.func28, Try.ntmps28
    go_wp2_with (first | (go_at_call 34; refine (unhide HM).mono ?_; rintro e w1 ⟨rfl, rfl⟩) | (go_at_call 9; refine (unhide HFI).mono ?_; rintro e w1 ⟨rfl, hb1⟩; have c1 := (unhide HC) w1 hb1; have HB1 := hide hb1; clear hb1) | (go_at_call 51; refine ((unhide HRE) _ (unhide HB1) hs).mono ?_; rintro e w2 ⟨rfl, hu⟩; have HU := hide hu; clear hu))
    go_ret
    exact ⟨rfl, unhide HU⟩
  · rw [if_neg hs]
    have hs' : s < 0 := by omega
    go_enter Try.func28, Try.ntmps28
    go_wp2_with (first | (go_at_call 34; refine (unhide HM).mono ?_; rintro e w1 ⟨rfl, rfl⟩) | (go_at_call 9; refine (unhide HFI).mono ?_; rintro e w1 ⟨rfl, hb1⟩; have c1 := (unhide HC) w1 hb1; have HB1 := hide hb1; clear hb1))
    go_ret
    exact ⟨rfl, (unhide HNO) _ (unhide HB1) hs⟩
end
section
variable {w wx : World} {obs : List (Ob w.heap.size)} {j bL bA : Nat} {es : List EntM}
theorem env_lremove (h : Env w wx obs) (hj : obs[j]? = some (liOb _ bL bA es)) (hl : es.length < 1000000000000) (id : Int) :
    Calls Try.prog 28 #[.pointer (some ⟨bL, 0, none⟩), .int .i64 id] wx fun e w' => e = .returned (.int .i64 (remA es id)) ∧ Env w w' (obs.set j (liOb _ bL bA (delE es (placeE es id)))) := by
  obtain ⟨F, ⟨bW, v, ps, R, hm, hF⟩, h3⟩ := h.li hj
  exact (lremove_any hm hF hl id).mono fun _ _ ⟨a, b⟩ => ⟨a, h3 _ _ b⟩
end
end Go.Proofs.Ytabdgmcajndgbaa
