/-
  From the nodes that nothing is above each node is met, once. Plain.
-/
import Derived.Test.YtlbkoafeedlfaaaTr
namespace Go.Proofs.Ytlbkoafeedlfaaa

section
variable {ns : List NodeM} {os : List OneM}
theorem Sim.up_below (h : Sim ns os) {y x : Nat} (hu : upO os y = some (x : Int)) : ∃ o, os[x]? = some o ∧ y ∈ belowO o := by
  unfold upO at hu
  cases hy : os[y]? with
  | none => rw [hy] at hu; cases hu
  | some q =>
    rw [hy] at hu
    simp only [Option.map_some, Option.some.injEq] at hu
    split at hu
    · rcases h.host y q hy with e | ⟨_, k, m, hk, rfl, hm, hi⟩
      · omega
      · obtain rfl : k = x := by omega
        refine ⟨m, hm, ?_⟩
        unfold belowO innerL
        rw [if_neg (by omega), hi]
        simp
    · rcases h.up y q hy with e | ⟨p, m, hp, hm, hin⟩
      · contradiction
      · obtain rfl : p = x := by omega
        exact ⟨m, hm, by unfold belowO; simp [hin]⟩
theorem TR_self (h : Sim ns os) {y : Nat} (hy : y < os.length) : y ∈ TR os y := by
  rw [TR_some h (List.getElem?_eq_getElem hy)]; simp
theorem TR_up (h : Sim ns os) {z x y : Nat} (hu : upO os z = some (x : Int)) (hy : y ∈ TR os z) : y ∈ TR os x := by
  obtain ⟨o, ho, hz⟩ := h.up_below hu
  rw [TR_some h ho]
  exact List.mem_cons_of_mem _ (List.mem_flatMap.2 ⟨z, hz, hy⟩)
def topB (os : List OneM) (i : Nat) : Bool := upO os i == some (-1)
theorem path_top (h : Sim ns os) {y : Nat} : ∀ {l : List Nat} {z : Nat}, PathOf (upO os) (z : Int) l → y ∈ TR os z → ∃ t, topB os t = true ∧ y ∈ TR os t
  | [], z, hp, _ => by
    have : ((z : Nat) : Int) = -1 := hp
    omega
  | i :: r, z, hp, hy => by
    obtain ⟨e, m, hm, hr⟩ := hp
    obtain rfl : z = i := by omega
    by_cases e1 : m = -1
    · subst e1
      exact ⟨z, by unfold topB; rw [hm]; rfl, hy⟩
    · cases r with
      | nil => exact absurd hr e1
      | cons i2 r2 =>
        have e2 : m = (i2 : Int) := hr.1
        subst e2
        exact path_top h hr (TR_up h hm hy)
theorem top_last {y t : Nat} : ∀ {l : List Nat} {k : Int}, PathOf (upO os) k l → t ∈ l → topB os t = true → l.getLast? = some t
  | [], _, _, ht, _ => by cases ht
  | i :: r, k, hp, ht, hb => by
    obtain ⟨_, m, hm, hr⟩ := hp
    by_cases e : t = i
    · subst e
      unfold topB at hb
      rw [hm] at hb
      have e1 : m = -1 := by simpa using hb
      subst e1
      cases r with
      | nil => rfl
      | cons i2 r2 => have := hr.1; omega
    · have ht' : t ∈ r := by simpa [e] using ht
      have := top_last (y := y) hr ht' hb
      cases r with
      | nil => cases ht'
      | cons i2 r2 => rw [List.getLast?_cons_cons]; exact this
def topsL (os : List OneM) : List Nat := (List.range os.length).filter (topB os)
theorem tops_nodup (h : Sim ns os) : ((topsL os).flatMap (TR os)).Nodup := by
  refine nodup_flat (List.nodup_range.filter _) (fun x _ => tree_nodup h _ x) (fun x hx x' hx' y hy hy' => ?_)
  obtain ⟨py, hpy, hin⟩ := tree_path h _ _ _ hy
  obtain ⟨py', hpy', hin'⟩ := tree_path h _ _ _ hy'
  have e0 := path_one hpy' hpy
  subst e0
  have b1 := top_last (y := y) hpy hin (List.mem_filter.1 hx).2
  have b2 := top_last (y := y) hpy hin' (List.mem_filter.1 hx').2
  rw [b1] at b2
  simpa using b2
theorem tops_perm (h : Sim ns os) : ((topsL os).flatMap (TR os)).Perm (List.range os.length) := by
  refine (List.perm_ext_iff_of_nodup (tops_nodup h) List.nodup_range).2 fun y => ?_
  constructor
  · intro hy
    obtain ⟨t, _, hyt⟩ := List.mem_flatMap.1 hy
    exact List.mem_range.2 (tree_in h _ _ _ hyt)
  · intro hy
    have hy' := List.mem_range.1 hy
    obtain ⟨l, hl⟩ := h.ends y hy'
    obtain ⟨t, ht, hyt⟩ := path_top h hl (TR_self h hy')
    refine List.mem_flatMap.2 ⟨t, List.mem_filter.2 ⟨?_, ht⟩, hyt⟩
    unfold topB upO at ht
    cases ho : os[t]? with
    | none => rw [ho] at ht; cases ht
    | some o => exact List.mem_range.2 (List.getElem?_eq_some_iff.1 ho).1
end
end Go.Proofs.Ytlbkoafeedlfaaa
