/-
  What is in any node of a tree, as text: inside, which comes back to itself.
-/
import Derived.Test.YtfcagiacjpcpeaaVj
namespace Go.Proofs.Ytfcagiacjpcpeaa
open Go.RowKit Go.Lib

theorem nodup_few : ∀ (N : Nat) (l : List Nat), l.Nodup → (∀ x ∈ l, x < N) → l.length ≤ N := by
  intro N
  induction N with
  | zero => intro l _ h; cases l with
    | nil => simp
    | cons x l => have := h x (by simp); omega
  | succ N ih =>
    intro l hn h
    by_cases hm : N ∈ l
    · have h1 := ih (l.erase N) (hn.erase N) (fun x hx => by
        have h2 := h x (List.mem_of_mem_erase hx)
        have h3 : x ≠ N := fun e => by rw [e] at hx; exact (hn.not_mem_erase) hx
        omega)
      rw [List.length_erase_of_mem hm] at h1
      omega
    · have h1 := ih l hn (fun x hx => by
        have h2 := h x hx
        have h3 : x ≠ N := fun e => hm (e ▸ hx)
        omega)
      omega

theorem nodeM_T {n : NodeM} {o : OneM} (h : Same n o) (inn : List UInt8) (pl : Bool) : nodeM inn n pl = nodeT inn o pl := by
  unfold nodeM nodeT elemM elemT voidO
  rw [h.kind, h.space, h.name, h.attrs, h.data]
theorem costM_O {n : NodeM} {o : OneM} (h : Same n o) : costM n = costO o := by
  unfold costM costO
  rw [h.name, h.attrs, h.data]
theorem kidX_T {ns : List NodeM} {os : List OneM} (hs : Sim ns os) (sc : Bool) (f : Nat) (pl : Bool) (k : Nat) : kidX ns (inL os sc f) pl k = kidT os sc f pl k := by
  unfold kidX kidT
  cases hc : os[k]? with
  | none =>
    have : ns[k]? = none := by rw [List.getElem?_eq_none_iff] at hc ⊢; rw [hs.len]; exact hc
    rw [this]
  | some c =>
    obtain ⟨m, hm, sm⟩ := hs.get hc
    rw [hm]
    exact nodeM_T sm _ _
theorem kidC_N {ns : List NodeM} {os : List OneM} (hs : Sim ns os) (f : Nat) (k : Nat) : kidC ns (costN os f) k = kidN os f k := by
  unfold kidC kidN
  cases hc : os[k]? with
  | none =>
    have : ns[k]? = none := by rw [List.getElem?_eq_none_iff] at hc ⊢; rw [hs.len]; exact hc
    rw [this]
  | some c =>
    obtain ⟨m, hm, sm⟩ := hs.get hc
    rw [hm]
    show costM m + _ = costO c + _
    rw [costM_O sm]

/-- The way up from what is in a node goes by that node. -/
theorem kid_path {ns : List NodeM} {os : List OneM} (hs : Sim ns os) {i : Nat} {o : OneM} (ho : os[i]? = some o) {path : List Nat} (hp : PathOf (upO os) i path) {k : Nat} (hk : k ∈ kidsOf os o) : ∃ c path', os[k]? = some c ∧ PathOf (upO os) k path' ∧ path.length < path'.length := by
  have one : ∀ (s : Nat) (so : OneM) (sp : List Nat), os[s]? = some so → PathOf (upO os) s sp → k ∈ so.kids → ∃ c path', os[k]? = some c ∧ PathOf (upO os) k path' ∧ sp.length < path'.length := by
    intro s so sp hso hsp hks
    obtain ⟨c, hc, hup⟩ := hs.down s so k hso hks
    refine ⟨c, k :: sp, hc, ⟨rfl, s, ?_, hsp⟩, by simp⟩
    unfold upO
    rw [hc]
    show some (if c.up = -1 then c.host else c.up) = some (s : Int)
    rw [if_neg (by rw [hup]; omega), hup]
  unfold kidsOf at hk
  rcases hs.inner i o ho with h1 | ⟨h1, m, hm, hh⟩
  · rw [if_pos h1] at hk
    exact one i o path ho hp hk
  · rw [if_neg (by rw [h1]; omega), h1, show ((i : Int) + 1).toNat = i + 1 by omega, hm] at hk
    have hmu : m.up = -1 := by
      rcases hs.host (i + 1) m hm with h2 | ⟨h2, _⟩
      · rw [hh] at h2; omega
      · exact hs.alone (i + 1) m hm (.inr h2)
    have hp2 : PathOf (upO os) ((i + 1 : Nat) : Int) ((i + 1) :: path) := by
      refine ⟨rfl, (i : Int), ?_, hp⟩
      unfold upO
      rw [hm]
      show some (if m.up = -1 then m.host else m.up) = some (i : Int)
      rw [if_pos hmu, hh]
    obtain ⟨c, path', e1, e2, e3⟩ := one (i + 1) m _ hm hp2 hk
    exact ⟨c, path', e1, e2, by simp at e3; omega⟩

theorem inside_all {W0 : World} {bA : Nat} {sc : Bool} {bw : Nat} {ns : List NodeM} {os : List OneM} (hN : NodeC W0 bA ns) (hs : Sim ns os) (hA : ∀ (i : Nat) m, ns[i]? = some m → m.attrs.length ≤ 100000) :
    ∀ (f i : Nat) (path : List Nat) (o : OneM) (nd : NodeM), PathOf (upO os) i path → os.length + 1 ≤ path.length + f → os[i]? = some o → ns[i]? = some nd → InsC W0 bA sc bw nd (inL os sc f i) (costN os f i) := by
  intro f
  induction f with
  | zero =>
    intro i path o nd hp hf _ _
    have := nodup_few os.length path (path_nodup hp) (path_in hp)
    omega
  | succ f ih =>
    intro i path o nd hp hf ho hnd
    have sm := hs.same i nd o hnd ho
    rw [inL_at ho, costN_at ho]
    have hv' : (htmlM nd.kind nd.space && hasN voids nd.name) = voidO o := by unfold voidO; rw [sm.kind, sm.space, sm.name]
    have hpl : (htmlM nd.kind nd.space && plainM nd.name sc) = plainO o sc := by unfold plainO; rw [sm.kind, sm.space, sm.name]
    cases hv : voidO o with
    | true =>
      rw [hv] at hv'
      simpa using inside_void nd _ hv'
    | false =>
      rw [hv] at hv'
      have hK : ∀ k ∈ kidsOf os o, ∃ m, ns[k]? = some m ∧ InsC W0 bA sc bw m (inL os sc f k) (costN os f k) ∧ m.attrs.length ≤ 100000 := by
        intro k hk
        obtain ⟨c, path', hc, hp', hlt⟩ := kid_path hs ho hp hk
        obtain ⟨m, hm, _⟩ := hs.get hc
        exact ⟨m, hm, ih k path' c m hp' (by omega) hc hm, hA k m hm⟩
      have fin : InsC W0 bA sc bw nd ((kidsOf os o).flatMap (kidX ns (inL os sc f) (htmlM nd.kind nd.space && plainM nd.name sc))) (((kidsOf os o).map (kidC ns (costN os f))).sum) := by
        rcases hs.inner i o ho with h1 | ⟨h1, m, hm, _⟩
        · have e : kidsOf os o = o.kids := by unfold kidsOf; rw [if_pos h1]
          rw [e] at hK ⊢
          exact inside_kids hN nd nd.first o.kids _ _ hv' (fun W t a cap _ _ => first_plain nd a cap bw W (by rw [sm.inner]; exact h1)) ((hs.kids i o ho).path hnd) hK (inL_len os sc f)
        · have e : kidsOf os o = m.kids := by
            unfold kidsOf
            rw [if_neg (by rw [h1]; omega), h1, show ((i : Int) + 1).toNat = i + 1 by omega, hm]
          rw [e] at hK ⊢
          obtain ⟨mm, hmm, _⟩ := hs.get hm
          exact inside_kids hN nd mm.first m.kids _ _ hv' (fun W t a cap hb hw => first_inner hN hb hw nd a cap (i + 1) mm (by rw [sm.inner, h1]; rfl) hmm) ((hs.kids (i + 1) m hm).path hmm) hK (inL_len os sc f)
      rw [hpl] at fin
      have e1 : (kidsOf os o).flatMap (kidX ns (inL os sc f) (plainO o sc)) = (kidsOf os o).flatMap (kidT os sc f (plainO o sc)) := by
        congr 1; funext k; exact kidX_T hs sc f _ k
      have e2 : (kidsOf os o).map (kidC ns (costN os f)) = (kidsOf os o).map (kidN os f) := by
        congr 1; funext k; exact kidC_N hs f k
      rw [e1, e2] at fin
      simpa using fin
end Go.Proofs.Ytfcagiacjpcpeaa
