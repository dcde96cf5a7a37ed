import Derived.Test.YtmllhebmaldgfaaRf9
/-
  Both arenas told by what their nodes are called: kind, namespace, name. What Element and Text make of them.
-/
namespace Go.Proofs.Ytmllhebmaldgfaa
open Go.RowKit

/-- What a node is called. -/
structure Key where
  kind : Int
  space : Int
  name : ByteArray

def keyN (n : NodeM) : Key := ⟨n.kind, n.space, n.name⟩
def keyO (o : OneM) : Key := ⟨o.kind, o.space, o.name⟩

def ArK (w : World) (base bA : Nat) (ks : List Key) (F : Nat → Prop) : Prop := ∃ ns, ArS w base bA ns F ∧ ns.map keyN = ks
def RfK (w : World) (base bR : Nat) (ks : List Key) (F : Nat → Prop) : Prop := ∃ os, RfS w base bR os F ∧ os.map keyO = ks
def UpdA (F : Nat → Prop) (w w' : World) (base bA : Nat) (ks : List Key) : Prop := ∃ F', ArK w' base bA ks F' ∧ Mod F w w' ∧ ∀ k, F' k → F k ∨ w.heap.size ≤ k
def UpdR (F : Nat → Prop) (w w' : World) (base bR : Nat) (ks : List Key) : Prop := ∃ F', RfK w' base bR ks F' ∧ Mod F w w' ∧ ∀ k, F' k → F k ∨ w.heap.size ≤ k

def addK (ks : List Key) (q : Key) : List Key × Int × Int := if ks.length + 1 ≤ 32768 then (ks ++ [q], (ks.length : Int), 0) else (ks, 0, 9)
def emptyS : ByteArray := ⟨#[]⟩
/-- An element more, without attributes. -/
def elemK (ks : List Key) (space : Int) (name : ByteArray) : List Key × Int × Int :=
  if space < 0 ∨ 2 < space then (ks, 0, 1)
  else if longS name then (ks, 0, 2)
  else if space = 0 ∧ isT name = true then
    (if ks.length + 2 ≤ 32768 then (ks ++ [⟨1, space, name⟩, ⟨5, 0, emptyS⟩], (ks.length : Int), 0) else (ks, 0, 9))
  else addK ks ⟨1, space, name⟩
def textK (ks : List Key) (s : ByteArray) : List Key × Int × Int := if longS s then (ks, 0, 2) else addK ks ⟨2, 0, emptyS⟩

section
variable {w w' : World} {base bA bR : Nat} {ks : List Key} {F G : Nat → Prop}

theorem ArK.lt (h : ArK w base bA ks F) {k : Nat} (hk : F k) : base ≤ k ∧ k < w.heap.size := by
  obtain ⟨ns, h, _⟩ := h
  exact h.lt hk
theorem ArK.mod (h : ArK w base bA ks F) (hm : Mod G w w') (hG : ∀ k, F k → ¬ G k) : ArK w' base bA ks F := by
  obtain ⟨ns, h, e⟩ := h
  exact ⟨ns, h.mod hm hG, e⟩
theorem ArK.below (h : ArK w base bA ks F) (hb : Below w.heap.size w w') : ArK w' base bA ks F := h.mod (Mod.of_below (F := fun _ => False) hb) (fun _ _ e => e)
theorem RfK.lt (h : RfK w base bR ks F) {k : Nat} (hk : F k) : base ≤ k ∧ k < w.heap.size := by
  obtain ⟨ns, h, _⟩ := h
  exact h.lt hk
theorem RfK.mod (h : RfK w base bR ks F) (hm : Mod G w w') (hG : ∀ k, F k → ¬ G k) : RfK w' base bR ks F := by
  obtain ⟨ns, h, e⟩ := h
  exact ⟨ns, h.mod hm hG, e⟩
theorem RfK.below (h : RfK w base bR ks F) (hb : Below w.heap.size w w') : RfK w' base bR ks F := h.mod (Mod.of_below (F := fun _ => False) hb) (fun _ _ e => e)

theorem longE_nil (name : ByteArray) : longE name [] = longS name := by simp [longE]
theorem attrs_none (w : World) : AttrsIn w none [] := ⟨fun i x hi => by simp at hi⟩

theorem element_k (h : ArK w base bA ks F) (space : Int) (name : ByteArray) :
    Calls Try.prog 27 #[.pointer (some ⟨bA, 0, none⟩), .int .i64 space, .string name, .slice none 0 0] w fun e w' =>
      e = .returned (.tuple #[.int .i64 (elemK ks space name).2.1, .int .i64 (elemK ks space name).2.2]) ∧ UpdA F w w' base bA (elemK ks space name).1 := by
  obtain ⟨ns, ha, rfl⟩ := h
  have hl := attrs_none w
  have up : ∀ {w' : World} {ms : List NodeM} {k2 : List Key}, Upd F w w' base bA ms → ms.map keyN = k2 → UpdA F w w' base bA k2 := by
    rintro w' ms k2 ⟨F', h1, h2, h3⟩ e
    exact ⟨F', ⟨ms, h1, e⟩, h2, h3⟩
  unfold elemK addK
  rw [List.length_map]
  by_cases h1 : space < 0 ∨ 2 < space
  · simp only [h1, if_true]
    exact (element_space ha space name _ h1).mono fun e w' ⟨h1, h2⟩ => ⟨h1, up (ha.upd (h2 ▸ Below.refl _ _)) rfl⟩
  · simp only [h1, if_false]
    have h1' : 0 ≤ space ∧ space ≤ 2 := by omega
    cases h2 : longS name with
    | true =>
      simp only [if_true]
      exact (element_long ha space name none 0 [] hl (by simp) h1' (by rw [longE_nil]; exact h2)).mono fun e w' ⟨h1, h2⟩ => ⟨h1, up (ha.upd h2) rfl⟩
    | false =>
      have h2' : longE name [] = false := by rw [longE_nil]; exact h2
      by_cases h3 : space = 0 ∧ isT name = true
      · rw [if_neg (by decide), if_pos h3]
        obtain ⟨rfl, h3⟩ := h3
        by_cases hf : ns.length + 2 ≤ 32768
        · simp only [hf, if_true]
          exact (element_tmpl ha name none 0 [] hl h3 h2' hf).mono fun e w' ⟨h1, av, h2⟩ => ⟨h1, up h2 (by simp [keyN, elemN, blankM, emptyS])⟩
        · simp only [hf, if_false]
          exact (element_full2 ha name none 0 [] hl h3 h2' hf).mono fun e w' ⟨h1, h2⟩ => ⟨h1, up (ha.upd h2) rfl⟩
      · rw [if_neg (by decide), if_neg h3]
        have hsp : space = 1 ∨ space = 2 ∨ (space = 0 ∧ isT name = false) := by
          by_cases e0 : space = 0
          · exact .inr (.inr ⟨e0, by simpa [e0] using h3⟩)
          · omega
        by_cases hf : ns.length + 1 ≤ 32768
        · simp only [hf, if_true]
          exact (element_plain ha space name none 0 [] hl hsp h2' hf).mono fun e w' ⟨h1, av, h2⟩ => ⟨h1, up h2 (by simp [keyN, elemN, blankM])⟩
        · simp only [hf, if_false]
          exact (element_full1 ha space name none 0 [] hl hsp h2' hf).mono fun e w' ⟨h1, h2⟩ => ⟨h1, up (ha.upd h2) rfl⟩

theorem text_k (h : ArK w base bA ks F) (s : ByteArray) :
    Calls Try.prog 37 #[.pointer (some ⟨bA, 0, none⟩), .string s] w fun e w' =>
      e = .returned (.tuple #[.int .i64 (textK ks s).2.1, .int .i64 (textK ks s).2.2]) ∧ UpdA F w w' base bA (textK ks s).1 := by
  obtain ⟨ns, ha, rfl⟩ := h
  have hE : (dataR ns 2 s).1.map keyN = (textK (ns.map keyN) s).1 ∧ (dataR ns 2 s).2 = (textK (ns.map keyN) s).2 := by
    unfold dataR textK addK
    rw [List.length_map]
    split
    · exact ⟨rfl, rfl⟩
    · split
      · exact ⟨by simp [keyN, dataN, blankM, emptyS], rfl⟩
      · exact ⟨rfl, rfl⟩
  refine (text_any ha s).mono ?_
  rintro e w' ⟨rfl, F', h1, h2, h3⟩
  rw [hE.2]
  exact ⟨rfl, F', ⟨_, h1, hE.1⟩, h2, h3⟩

theorem elemO_k (os : List OneM) (space : Int) (name : ByteArray) : (elemO os space name []).1.map keyO = (elemK (os.map keyO) space name).1 ∧ (elemO os space name []).2 = (elemK (os.map keyO) space name).2 := by
  unfold elemO elemK addO addK
  rw [List.length_map, longE_nil]
  split
  · exact ⟨rfl, rfl⟩
  · split
    · exact ⟨rfl, rfl⟩
    · split
      · split
        · exact ⟨by simp [keyO, elemQ, oneM, emptyS], rfl⟩
        · exact ⟨rfl, rfl⟩
      · split
        · exact ⟨by simp [keyO, elemQ, oneM], rfl⟩
        · exact ⟨rfl, rfl⟩

theorem refElement_k (h : RfK w base bR ks F) (space : Int) (name : ByteArray) :
    Calls Try.prog 36 #[.pointer (some ⟨bR, 0, none⟩), .int .i64 space, .string name, .slice none 0 0] w fun e w' =>
      e = .returned (.tuple #[.int .i64 (elemK ks space name).2.1, .int .i64 (elemK ks space name).2.2]) ∧ UpdR F w w' base bR (elemK ks space name).1 := by
  obtain ⟨os, ha, rfl⟩ := h
  obtain ⟨hE1, hE2⟩ := elemO_k os space name
  have key : Calls Try.prog 36 #[.pointer (some ⟨bR, 0, none⟩), .int .i64 space, .string name, .slice none 0 0] w fun e w' =>
      e = .returned (.tuple #[.int .i64 (elemO os space name []).2.1, .int .i64 (elemO os space name []).2.2]) ∧ URf F w w' base bR (elemO os space name []).1 := by
    by_cases h1 : space < 0 ∨ 2 < space
    · have e : elemO os space name [] = (os, 0, 1) := by unfold elemO; rw [if_pos h1]
      rw [e]
      exact (refElement_space space name _ h1).mono fun e w' ⟨h1, h2⟩ => ⟨h1, ha.upd (h2 ▸ Below.refl _ _)⟩
    · cases h2 : longS name with
      | true =>
        have e : elemO os space name [] = (os, 0, 2) := by unfold elemO; rw [if_neg h1, longE_nil, h2]; rfl
        rw [e]
        exact (refElement_many space name none 0 0 (by omega) (by simp [maxLen]) (.inr h2)).mono fun e w' ⟨h1, h2⟩ => ⟨h1, ha.upd (h2 ▸ Below.refl _ _)⟩
      | false => exact refElement_in ha space name none 0 [] (attrs_none w) (by omega) (by simp) h2
  refine key.mono ?_
  rintro e w' ⟨rfl, F', h1, h2, h3⟩
  rw [hE2]
  exact ⟨rfl, F', ⟨_, h1, hE1⟩, h2, h3⟩

theorem refText_k (h : RfK w base bR ks F) (s : ByteArray) :
    Calls Try.prog 38 #[.pointer (some ⟨bR, 0, none⟩), .string s] w fun e w' =>
      e = .returned (.tuple #[.int .i64 (textK ks s).2.1, .int .i64 (textK ks s).2.2]) ∧ UpdR F w w' base bR (textK ks s).1 := by
  obtain ⟨os, ha, rfl⟩ := h
  have hE : (dataO os 2 s).1.map keyO = (textK (os.map keyO) s).1 ∧ (dataO os 2 s).2 = (textK (os.map keyO) s).2 := by
    unfold dataO textK addO addK
    rw [List.length_map]
    split
    · exact ⟨rfl, rfl⟩
    · split
      · exact ⟨by simp [keyO, dataQ, oneM, emptyS], rfl⟩
      · exact ⟨rfl, rfl⟩
  refine (refText_sim ha s).mono ?_
  rintro e w' ⟨rfl, F', h1, h2, h3⟩
  rw [hE.2]
  exact ⟨rfl, F', ⟨_, h1, hE.1⟩, h2, h3⟩

theorem new_k (w : World) (base : Nat) (hbase : base ≤ w.heap.size) :
    Calls Try.prog 26 #[] w fun e w' => ∃ bA F, e = .returned (.pointer (some ⟨bA, 0, none⟩)) ∧ ArK w' base bA [⟨0, 0, emptyS⟩] F ∧ Below w.heap.size w w' ∧ ∀ k, F k → w.heap.size ≤ k := by
  refine (new_any w base hbase).mono ?_
  rintro e w' ⟨F, rfl, h1, h2, h3⟩
  exact ⟨_, F, rfl, ⟨_, h1, rfl⟩, h2, h3⟩
theorem refNew_k (w : World) (base : Nat) (hbase : base ≤ w.heap.size) :
    Calls Try.prog 35 #[] w fun e w' => ∃ bR F, e = .returned (.pointer (some ⟨bR, 0, none⟩)) ∧ RfK w' base bR [⟨0, 0, emptyS⟩] F ∧ Below w.heap.size w w' ∧ ∀ k, F k → w.heap.size ≤ k := by
  refine (refNew_any w base hbase).mono ?_
  rintro e w' ⟨bR, g, cap, rfl, h1, h2, h3, h4⟩
  refine ⟨bR, footR bR g [oneR 0], rfl, ⟨_, ⟨g, cap, _, h1, rfl, fun _ => Iff.rfl⟩, rfl⟩, h2, ?_⟩
  rintro k (rfl | rfl | ⟨r, hr, hk⟩)
  · exact h3
  · exact h4
  · simp at hr; subst hr; simp [oneR, blk] at hk

theorem len_k (h : ArK w base bA ks F) : Calls Try.prog 17 #[.pointer (some ⟨bA, 0, none⟩)] w fun e w' => e = .returned (.int .i64 ks.length) ∧ w = w' := by
  obtain ⟨ns, ⟨bS, g, cap, h, _⟩, rfl⟩ := h
  rw [List.length_map]
  exact len_any h
theorem ArK.most (h : ArK w base bA ks F) : ks.length ≤ 32768 ∧ 0 < ks.length := by
  obtain ⟨ns, ⟨bS, g, cap, h, _⟩, rfl⟩ := h
  rw [List.length_map]
  exact ⟨h.most, h.pos⟩

/-- What the node of a number is called; the errors of Node. -/
def keyAt (ks : List Key) (id : Int) : Option Key := if 0 ≤ id then ks[id.toNat]? else none
theorem keyAt_some {ks : List Key} {id : Int} {q : Key} (h : keyAt ks id = some q) : ∃ i : Nat, id = (i : Int) ∧ ks[i]? = some q := by
  unfold keyAt at h
  split at h
  · exact ⟨id.toNat, by omega, h⟩
  · cases h
theorem keyAt_none {ks : List Key} {id : Int} (h : keyAt ks id = none) : id < 0 ∨ (ks.length : Int) ≤ id := by
  unfold keyAt at h
  split at h
  · right
    have := List.getElem?_eq_none_iff.1 h
    omega
  · left; omega
theorem node_k (h : ArK w base bA ks F) {id : Int} {q : Key} (hq : keyAt ks id = some q) :
    Calls Try.prog 18 #[.pointer (some ⟨bA, 0, none⟩), .int .i64 id] w fun e w' => ∃ (n : NodeM) (ao : Option Addr) (m c : Nat), e = .returned (.tuple #[nodeV n (.slice ao m c), .int .i64 0]) ∧ keyN n = q ∧ Below w.heap.size w w' := by
  obtain ⟨i, rfl, hi⟩ := keyAt_some hq
  obtain ⟨ns, ha, rfl⟩ := h
  rw [List.getElem?_map] at hi
  cases hn : ns[i]? with
  | none => rw [hn] at hi; cases hi
  | some n =>
    rw [hn] at hi
    cases hi
    refine (node_in ha i n hn).mono ?_
    rintro e w' ⟨ao, cp, rfl, _, hb, _⟩
    exact ⟨n, ao, _, cp, rfl, rfl, hb⟩
theorem node_k_no (h : ArK w base bA ks F) {id : Int} (hq : keyAt ks id = none) :
    Calls Try.prog 18 #[.pointer (some ⟨bA, 0, none⟩), .int .i64 id] w fun e w' => e = .returned (.tuple #[nodeZ, .int .i64 6]) ∧ Below w.heap.size w w' := by
  have h0 := keyAt_none hq
  obtain ⟨ns, ha, rfl⟩ := h
  rw [List.length_map] at h0
  exact node_no ha id (by unfold hasM; exact decide_eq_false (by omega))
end
end Go.Proofs.Ytmllhebmaldgfaa
