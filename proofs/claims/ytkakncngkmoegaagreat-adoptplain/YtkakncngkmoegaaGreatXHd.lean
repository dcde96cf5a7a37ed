import Derived.Test.YtkakncngkmoegaaGreatXHc
/-
  AdoptPlain, plain: what Run is told of it.
-/
namespace Go.Proofs.YtkakncngkmoegaaGreat
open Go.RowKit Go.Sort

def tokP (own : ByteArray) : TokM := ⟨1, own, ⟨#[]⟩, ⟨#[]⟩, 0, false, 0, false, []⟩
section
variable {os : List OneM} {L : List Int} {own : ByteArray} {i : Nat}
theorem EndI.keyAt (h : EndI os own i) : keyAt (keysO os) ((i : Int) + 1) = some ⟨1, 0, own⟩ := by
  obtain ⟨o, ho, hk, _⟩ := h.mine
  have e : ((i : Int) + 1).toNat = i + 1 := by omega
  unfold Go.Proofs.YtkakncngkmoegaaGreat.keyAt
  rw [if_pos (by omega), e]
  simp [keysO, ho, hk]
theorem EndI.elOf (h : EndI os own i) : elOf (keysO os) ((i : Int) + 1) = some ⟨0, own⟩ := by
  rw [elOf_key h.keyAt]
  rfl
theorem EndI.elK (h : EndI os own i) : elK (keysO os) ((i : Int) + 1) = some ⟨0, own⟩ := by
  rw [elK_key h.keyAt]
  rfl
theorem EndI.divs (h : EndI os own i) (hL : L = (List.range i).map fun (k : Nat) => (k : Int) + 1) : Good (keysO os) L := by
  refine ⟨?_, fun x hx => ?_⟩
  · rw [hL]
    refine List.pairwise_map.2 (List.Pairwise.imp ?_ (List.nodup_range (n := i)))
    intro a b hab e
    exact hab (by omega)
  · rw [hL] at hx
    obtain ⟨k, hk, rfl⟩ := List.mem_map.1 hx
    have := List.mem_range.1 hk
    obtain ⟨o, ho, hkk⟩ := h.key (k + 1) (by omega) (by omega)
    have hky : Go.Proofs.YtkakncngkmoegaaGreat.keyAt (keysO os) ((k : Int) + 1) = some ⟨1, 0, divB⟩ := by
      unfold Go.Proofs.YtkakncngkmoegaaGreat.keyAt
      rw [if_pos (by omega), show ((k : Int) + 1).toNat = k + 1 by omega]
      simp [keysO, ho, hkk]
    rw [elOf_key hky]
    rfl
theorem divs_no (hL : L = (List.range i).map fun (k : Nat) => (k : Int) + 1) : (i : Int) + 1 ∉ L := by
  rw [hL]
  intro hm
  obtain ⟨k, hk, e⟩ := List.mem_map.1 hm
  have := List.mem_range.1 hk
  omega
theorem divs_len (hL : L = (List.range i).map fun (k : Nat) => (k : Int) + 1) : L.length = i := by rw [hL]; simp
theorem EndI.enter (h : EndI os own i) (hL : L = (List.range i).map fun (k : Nat) => (k : Int) + 1) : pushL (keysO os) L ((i : Int) + 1) = L ++ [(i : Int) + 1] := by
  unfold pushL enterE
  rw [h.elOf]
  simp [divs_no hL]
theorem EndI.push (h : EndI os own i) : pushE (keysO os) [] ((i : Int) + 1) (tokP own) = [⟨(i : Int) + 1, 0, own, tokP own⟩] := by
  have he : enterEAc (keysO os) [] ((i : Int) + 1) = 0 := by
    unfold enterEAc
    rw [h.elK]
    rfl
  have hn : newE (keysO os) [] ((i : Int) + 1) (tokP own) = ⟨(i : Int) + 1, 0, own, tokP own⟩ := by
    unfold newE enterK
    rw [if_pos he, h.elK]
    rfl
  unfold pushE
  rw [if_pos he, hn]
  have hd : ∀ z, delE [] z = [] := fun z => by unfold delE; split <;> simp
  rw [hd]
  rfl
theorem place_one (x : EntM) (hx : x.node ≠ -1) : placeE [x] x.node = 0 := by
  simp [placeE, pairsN, findP, hx]
/-- All that Run asks. -/
theorem EndI.all (h : EndI os own i) (hi : i ≤ 100) (hL : L = (List.range i).map fun (k : Nat) => (k : Int) + 1) (hn : longS own = false) :
    Inv ⟨os, L ++ [(i : Int) + 1], [⟨(i : Int) + 1, 0, own, tokP own⟩], 0⟩ 1000 ∧ topN ⟨os, L ++ [(i : Int) + 1], [⟨(i : Int) + 1, 0, own, tokP own⟩], 0⟩ own = false ∧ lastE own [⟨(i : Int) + 1, 0, own, tokP own⟩] 1 = (i : Int) + 1 ∧ findM (L ++ [(i : Int) + 1]) ((i : Int) + 1) = (i : Int) ∧ nodeScopeM (keysO os) (L ++ [(i : Int) + 1]) ((i : Int) + 1) 0 = true ∧ topM (L ++ [(i : Int) + 1]) = (i : Int) + 1 ∧ blockP (keysO os) (L ++ [(i : Int) + 1]) ((i : Int) + 1) = -1 ∧ (L ++ [(i : Int) + 1]).take i = L ∧ delE [⟨(i : Int) + 1, 0, own, tokP own⟩] (placeE [⟨(i : Int) + 1, 0, own, tokP own⟩] ((i : Int) + 1)) = [] := by
  have hlen := divs_len hL
  have hno := divs_no hL
  have hg := h.divs hL
  have hne : ((i : Int) + 1) ≠ -1 := by omega
  have hpl : placeE [⟨(i : Int) + 1, 0, own, tokP own⟩] ((i : Int) + 1) = 0 := place_one ⟨(i : Int) + 1, 0, own, tokP own⟩ hne
  have htop : topM (L ++ [(i : Int) + 1]) = (i : Int) + 1 := by
    unfold topM atM
    rw [List.length_append, List.length_singleton, hlen, if_pos (by omega), show (((i + 1 : Nat) : Int) - 1).toNat = i by omega, List.getElem?_append_right (by omega), hlen]
    simp
  have hfind : findM (L ++ [(i : Int) + 1]) ((i : Int) + 1) = (i : Int) := by
    unfold findM
    rw [if_pos (by simp), List.idxOf_append, if_neg hno, hlen]
    simp
  refine ⟨⟨?_, fun x hx => ?_, by simp only [h.len]; omega, by simp, h.one⟩, ?_, ?_, hfind, ?_, htop, ?_, ?_, ?_⟩
  · have := hg.pushed ((i : Int) + 1)
    rwa [h.enter hL] at this
  · simp only [List.mem_cons, List.not_mem_nil, or_false] at hx
    subst hx
    exact .inr ⟨h.keyAt, hn, rfl⟩
  · unfold topN
    simp only [htop, hpl]
    simp
  · simp [lastE, hne, kinB]
  · unfold nodeScopeM
    rw [if_neg (by omega), List.length_append, List.length_singleton, hlen]
    unfold reachI
    rw [List.getElem?_append_right (by omega), hlen]
    simp
  · unfold blockP
    rw [hfind, List.length_append, List.length_singleton, hlen, Int.toNat_natCast, Nat.sub_self]
    rfl
  · rw [← hlen, List.take_left']
    rfl
  · rw [hpl]; rfl
end
end Go.Proofs.YtkakncngkmoegaaGreat
