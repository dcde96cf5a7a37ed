import Derived.Test.YtkakncngkmoegaaGreatXHb
/-
  AdoptPlain, plain: a row of elements, one in the other, and one more that is in the list.
-/
namespace Go.Proofs.YtkakncngkmoegaaGreat
open Go.RowKit Go.Sort

def divB : ByteArray := ⟨#[100, 105, 118]⟩
theorem elemO_plain {os : List OneM} {nm : ByteArray} (hr : os.length + 2 ≤ 32768) (hn : longS nm = false) (hT : isT nm = false) : elemO os 0 nm [] = (os ++ [elemQ 0 nm []], (os.length : Int), 0) := by
  unfold elemO
  rw [if_neg (by omega), if_neg (by rw [longE_nil, hn]; exact Bool.false_ne_true), if_neg (by rw [hT]; simp)]
  unfold addO
  rw [if_pos (by omega)]
/-- One element in the other, all open. -/
structure DivI (os : List OneM) (L : List Int) (i : Nat) : Prop where
  len : os.length = i + 1
  st : L = (List.range i).map fun (k : Nat) => (k : Int) + 1
  doc : ∃ o, os[0]? = some o ∧ o.kind = 0
  key : ∀ k : Nat, 1 ≤ k → k ≤ i → ∃ o, os[k]? = some o ∧ keyO o = ⟨1, 0, divB⟩
  one : ∀ o ∈ os, OneI o
theorem DivI.start : DivI [oneM 0] [] 0 := by
  refine ⟨rfl, rfl, ⟨_, rfl, rfl⟩, fun k h1 h2 => by omega, fun o ho => ?_⟩
  simp only [List.mem_cons, List.not_mem_nil, or_false] at ho
  subst ho
  exact oneI_oneM 0 (.inl rfl) _
theorem DivI.mem {os : List OneM} {L : List Int} {i : Nat} (h : DivI os L i) {x : Int} (hx : x ∈ L) : ∃ k : Nat, x = (k : Int) ∧ 1 ≤ k ∧ k ≤ i := by
  rw [h.st] at hx
  obtain ⟨k, hk, rfl⟩ := List.mem_map.1 hx
  have := List.mem_range.1 hk
  exact ⟨k + 1, by simp, by omega, by omega⟩
theorem DivI.elOf {os : List OneM} {L : List Int} {i : Nat} (h : DivI os L i) {k : Nat} (h1 : 1 ≤ k) (h2 : k ≤ i) : elOf (keysO os) (k : Int) = some ⟨0, divB⟩ := by
  obtain ⟨o, ho, hk⟩ := h.key k h1 h2
  have hky : keyAt (keysO os) (k : Int) = some ⟨1, 0, divB⟩ := by simp [keyAt, keysO, ho, hk]
  rw [elOf_key hky]
  rfl
theorem DivI.good {os : List OneM} {L : List Int} {i : Nat} (h : DivI os L i) : Good (keysO os) L := by
  refine ⟨?_, fun x hx => ?_⟩
  · rw [h.st]
    refine List.pairwise_map.2 (List.Pairwise.imp ?_ (List.nodup_range (n := i)))
    intro a b hab e
    exact hab (by omega)
  · obtain ⟨k, rfl, h1, h2⟩ := h.mem hx
    rw [h.elOf h1 h2]
    rfl
theorem kin_app {os os' ms : List OneM} (h : Kin (os ++ ms) os') {k : Nat} (hk : k < os.length) {o : OneM} (ho : os[k]? = some o) : ∃ o', os'[k]? = some o' ∧ keyO o' = keyO o := by
  obtain ⟨o', e, _, p2, p3, p4⟩ := h.get (i := k) (o := o) (by rw [List.getElem?_append_left hk]; exact ho)
  exact ⟨o', e, by simp [keyO, p2, p3, p4]⟩
theorem DivI.step {os : List OneM} {L : List Int} {i : Nat} (h : DivI os L i) (hi : i ≤ 100) :
    elemO os 0 divB [] = (os ++ [elemQ 0 divB []], (i : Int) + 1, 0) ∧ enterE (keysO (linkR (os ++ [elemQ 0 divB []]) i ((i : Int) + 1) (-1))) L ((i : Int) + 1) = 0 ∧ DivI (linkR (os ++ [elemQ 0 divB []]) i ((i : Int) + 1) (-1)) (L ++ [(i : Int) + 1]) (i + 1) := by
  have he := elemO_plain (os := os) (nm := divB) (by rw [h.len]; omega) (by decide +kernel) (by decide +kernel)
  have hlen : ((os.length : Nat) : Int) = (i : Int) + 1 := by rw [h.len]; simp
  rw [hlen] at he
  have hk := kin_link (os ++ [elemQ 0 divB []]) (i : Int) ((i : Int) + 1) (-1)
  have hnew : ∃ o', (linkR (os ++ [elemQ 0 divB []]) (i : Int) ((i : Int) + 1) (-1))[i + 1]? = some o' ∧ keyO o' = ⟨1, 0, divB⟩ := by
    obtain ⟨o', e, _, p2, p3, p4⟩ := hk.get (i := i + 1) (o := elemQ 0 divB []) (by rw [List.getElem?_append_right (by rw [h.len]; exact Nat.le_refl _), h.len]; simp)
    exact ⟨o', e, by simp [keyO, p2, p3, p4, elemQ, oneM]⟩
  have hD : DivI (linkR (os ++ [elemQ 0 divB []]) (i : Int) ((i : Int) + 1) (-1)) (L ++ [(i : Int) + 1]) (i + 1) := by
    refine ⟨by rw [linkR_len, List.length_append, h.len]; rfl, by rw [h.st, List.range_succ, List.map_append]; rfl, ?_, fun k h1 h2 => ?_, hk.oneI (fun o ho => ?_)⟩
    · obtain ⟨o, ho, hk0⟩ := h.doc
      obtain ⟨o', e, hky⟩ := kin_app hk (k := 0) (by rw [h.len]; omega) ho
      exact ⟨o', e, by have := congrArg Key.kind hky; exact this.trans hk0⟩
    · by_cases e : k = i + 1
      · subst e; exact hnew
      · obtain ⟨o, ho, hkk⟩ := h.key k h1 (by omega)
        obtain ⟨o', e2, hky⟩ := kin_app hk (k := k) (by rw [h.len]; omega) ho
        exact ⟨o', e2, hky.trans hkk⟩
    · rcases List.mem_append.1 ho with ho | ho
      · exact h.one o ho
      · simp only [List.mem_cons, List.not_mem_nil, or_false] at ho
        subst ho
        exact oneI_elem divB (by decide +kernel)
  refine ⟨he, ?_, hD⟩
  have hel := hD.elOf (k := i + 1) (by omega) (by omega)
  rw [show (((i + 1 : Nat)) : Int) = (i : Int) + 1 by simp] at hel
  unfold enterE
  have hnm : ¬ ((i : Int) + 1 ∈ L) := fun hm => by
    obtain ⟨k, e, _, h2⟩ := h.mem hm
    omega
  rw [hel]
  simp [hnm]

/-- The last one, that is in the list. -/
structure EndI (os : List OneM) (own : ByteArray) (i : Nat) : Prop where
  len : os.length = i + 2
  mine : ∃ o, os[i + 1]? = some o ∧ keyO o = ⟨1, 0, own⟩ ∧ o.up = (i : Int)
  key : ∀ k : Nat, 1 ≤ k → k ≤ i → ∃ o, os[k]? = some o ∧ keyO o = ⟨1, 0, divB⟩
  one : ∀ o ∈ os, OneI o
theorem DivI.last {os : List OneM} {L : List Int} {i : Nat} (h : DivI os L i) (hi : i ≤ 100) {own : ByteArray} (h1 : longS own = false) (h2 : isT own = false) :
    elemO os 0 own [] = (os ++ [elemQ 0 own []], (i : Int) + 1, 0) ∧ ∀ ns, Sim ns (os ++ [elemQ 0 own []]) → EndI (linkR (os ++ [elemQ 0 own []]) i ((i : Int) + 1) (-1)) own i := by
  have he := elemO_plain (os := os) (nm := own) (by rw [h.len]; omega) h1 h2
  have hlen : ((os.length : Nat) : Int) = (i : Int) + 1 := by rw [h.len]; simp
  rw [hlen] at he
  refine ⟨he, fun ns hs => ?_⟩
  have hk := kin_link (os ++ [elemQ 0 own []]) (i : Int) ((i : Int) + 1) (-1)
  have hoc : (os ++ [elemQ 0 own []])[i + 1]? = some (elemQ 0 own []) := by rw [List.getElem?_append_right (by rw [h.len]; exact Nat.le_refl _), h.len]; simp
  have hlen2 : (os ++ [elemQ 0 own []]).length = i + 2 := by rw [List.length_append, h.len]; rfl
  obtain ⟨op, hop⟩ : ∃ o, (os ++ [elemQ 0 own []])[i]? = some o := ⟨_, List.getElem?_eq_getElem (by omega)⟩
  have hpk : parentM op.kind = true := by
    rw [List.getElem?_append_left (by rw [h.len]; omega)] at hop
    by_cases e : i = 0
    · subst e
      obtain ⟨o, ho, hk0⟩ := h.doc
      rw [ho] at hop
      cases hop
      rw [hk0]; rfl
    · obtain ⟨o, ho, hkk⟩ := h.key i (by omega) (Nat.le_refl _)
      rw [ho] at hop
      cases hop
      have hk1 : op.kind = 1 := congrArg Key.kind hkk
      rw [hk1]; rfl
  have hlink : linkE (os ++ [elemQ 0 own []]) (i : Int) ((i : Int) + 1) (-1) = 0 := by
    have e1 : ((i : Int) + 1) = ((i + 1 : Nat) : Int) := by simp
    rw [e1]
    unfold linkE
    rw [if_neg (by simp [hasO, hlen2]; omega), kindO_of hop, kindO_of hoc, upIO_of hoc]
    rw [if_neg (by rw [hpk]; simp [elemQ, oneM]), if_neg, if_neg (by simp)]
    intro hor
    rcases hor with e | e
    · simp [elemQ, oneM] at e
    · obtain ⟨path, hp⟩ := hs.ends i (by omega)
      rw [aboveO_of hop (hasO_of hoc) hp] at e
      unfold inPath at e
      obtain ⟨x, hx, hxe⟩ := List.any_eq_true.1 e
      have hxi : x = i + 1 := by
        have : (x : Int) = (i : Int) + 1 := by simpa using hxe
        omega
      subst hxi
      have := hs.above_has hoc rfl rfl hp hx
      omega
  refine ⟨by rw [linkR_len, hlen2], ?_, fun k k1 k2 => ?_, hk.oneI (fun o ho => ?_)⟩
  · refine ⟨_, by unfold linkR; rw [if_pos hlink, linkO_get, show ((i : Int) + 1).toNat = i + 1 by omega, hoc]; rfl, ?_, ?_⟩
    · rfl
    · simp
  · obtain ⟨o, ho, hkk⟩ := h.key k k1 k2
    obtain ⟨o', e2, hky⟩ := kin_app hk (k := k) (by rw [h.len]; omega) ho
    exact ⟨o', e2, hky.trans hkk⟩
  · rcases List.mem_append.1 ho with ho | ho
    · exact h.one o ho
    · simp only [List.mem_cons, List.not_mem_nil, or_false] at ho
      subst ho
      exact oneI_elem own h2
end Go.Proofs.YtkakncngkmoegaaGreat
