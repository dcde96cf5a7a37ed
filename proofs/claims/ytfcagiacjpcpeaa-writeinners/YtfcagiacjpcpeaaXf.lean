/-
  How long a tree's text can become: each node is told once.
-/
import Derived.Test.YtfcagiacjpcpeaaVk
namespace Go.Proofs.Ytfcagiacjpcpeaa
open Go.RowKit Go.Lib

/-- What is below a node, in order. -/
def vis (os : List OneM) : Nat → Nat → List Nat
  | 0, _ => []
  | n + 1, i => match os[i]? with
    | none => []
    | some o => (kidsOf os o).flatMap fun k => k :: vis os n k
theorem vis_at {os : List OneM} {i : Nat} {o : OneM} (h : os[i]? = some o) (n : Nat) : vis os (n + 1) i = (kidsOf os o).flatMap fun k => k :: vis os n k := by
  rw [vis, h]
def costAt (os : List OneM) (k : Nat) : Nat := match os[k]? with | none => 0 | some c => costO c
theorem sum_flat {α : Type} (f : α → List Nat) (c : Nat → Nat) (l : List α) : ((l.flatMap f).map c).sum = (l.map fun x => ((f x).map c).sum).sum := by
  induction l with
  | nil => rfl
  | cons x l ih => simp [ih]
theorem cost_vis (os : List OneM) : ∀ (n i : Nat), costN os n i ≤ ((vis os n i).map (costAt os)).sum := by
  intro n
  induction n with
  | zero => intro i; simp [costN]
  | succ n ih =>
    intro i
    cases ho : os[i]? with
    | none => rw [costN, ho]; exact Nat.zero_le _
    | some o =>
      rw [costN_at ho, vis_at ho, sum_flat]
      have : ∀ l : List Nat, (l.map (kidN os n)).sum ≤ (l.map fun k => ((k :: vis os n k).map (costAt os)).sum).sum := by
        intro l
        induction l with
        | nil => simp
        | cons k l ihl =>
          have h1 := ih k
          have h2 : kidN os n k ≤ costAt os k + ((vis os n k).map (costAt os)).sum := by
            generalize ((vis os n k).map (costAt os)).sum = S at h1
            unfold kidN costAt
            cases hc : os[k]? with
            | none => exact Nat.zero_le _
            | some c => show costO c + costN os n k ≤ costO c + S; omega
          simp only [List.map_cons, List.sum_cons] at ihl ⊢
          omega
      exact this _

/-- The ways up of the nodes in a node are that node's source's, one longer. -/
theorem src_path {ns : List NodeM} {os : List OneM} (hs : Sim ns os) {i : Nat} {o : OneM} (ho : os[i]? = some o) {path : List Nat} (hp : PathOf (upO os) i path) : ∃ pre, (∃ x, x ++ path = pre) ∧ ∀ k ∈ kidsOf os o, PathOf (upO os) k (k :: pre) ∧ ∃ c, os[k]? = some c := by
  have one : ∀ (s : Nat) (so : OneM) (sp : List Nat), os[s]? = some so → PathOf (upO os) s sp → ∀ k ∈ so.kids, PathOf (upO os) k (k :: sp) ∧ ∃ c, os[k]? = some c := by
    intro s so sp hso hsp k hks
    obtain ⟨c, hc, hup⟩ := hs.down s so k hso hks
    refine ⟨⟨rfl, s, ?_, hsp⟩, c, hc⟩
    unfold upO
    rw [hc]
    show some (if c.up = -1 then c.host else c.up) = some (s : Int)
    rw [if_neg (by rw [hup]; omega), hup]
  unfold kidsOf
  rcases hs.inner i o ho with h1 | ⟨h1, m, hm, hh⟩
  · rw [if_pos h1]
    exact ⟨path, ⟨[], rfl⟩, fun k hk => one i o path ho hp k hk⟩
  · rw [if_neg (by rw [h1]; omega), h1, show ((i : Int) + 1).toNat = i + 1 by omega, hm]
    have hmu : m.up = -1 := by
      rcases hs.host (i + 1) m hm with h2 | ⟨h2, _⟩
      · rw [hh] at h2; omega
      · exact hs.alone (i + 1) m hm (.inr h2)
    have hp2 : PathOf (upO os) ((i + 1 : Nat) : Int) ((i + 1) :: path) := by
      refine ⟨rfl, (i : Int), ?_, hp⟩
      unfold upO
      rw [hm]
      show some (if m.up = -1 then m.host else m.up) = some (i : Int)
      rw [if_pos hmu, hh]
    exact ⟨(i + 1) :: path, ⟨[i + 1], rfl⟩, fun k hk => one (i + 1) m _ hm hp2 k hk⟩
theorem kidsOf_nodup {ns : List NodeM} {os : List OneM} (hs : Sim ns os) {i : Nat} {o : OneM} (ho : os[i]? = some o) : (kidsOf os o).Nodup := by
  unfold kidsOf
  split
  · exact (hs.kids i o ho).nodup
  · split
    · rename_i c hc; exact (hs.kids _ c hc).nodup
    · exact List.nodup_nil

/-- What is below a node has a way up that ends in the node's. -/
theorem vis_path {ns : List NodeM} {os : List OneM} (hs : Sim ns os) : ∀ (n i : Nat) (o : OneM) (path : List Nat), os[i]? = some o → PathOf (upO os) i path → ∀ k ∈ vis os n i, ∃ x, x ≠ [] ∧ PathOf (upO os) k (x ++ path) ∧ ∃ c, os[k]? = some c := by
  intro n
  induction n with
  | zero => intro i o path _ _ k hk; simp [vis] at hk
  | succ n ih =>
    intro i o path ho hp k hk
    rw [vis_at ho, List.mem_flatMap] at hk
    obtain ⟨a, ha, hk⟩ := hk
    obtain ⟨pre, ⟨x, hx⟩, hpre⟩ := src_path hs ho hp
    obtain ⟨hpa, c, hc⟩ := hpre a ha
    rcases List.mem_cons.1 hk with rfl | hk
    · exact ⟨k :: x, by simp, by rw [List.cons_append, hx]; exact hpa, c, hc⟩
    · obtain ⟨y, hy, hyp, hc'⟩ := ih a c _ hc hpa k hk
      exact ⟨y ++ a :: x, by simp, by rw [List.append_assoc, List.cons_append, hx]; exact hyp, hc'⟩
theorem vis_nodup {ns : List NodeM} {os : List OneM} (hs : Sim ns os) : ∀ (n i : Nat) (o : OneM) (path : List Nat), os[i]? = some o → PathOf (upO os) i path → (vis os n i).Nodup := by
  intro n
  induction n with
  | zero => intro i o path _ _; simp [vis]
  | succ n ih =>
    intro i o path ho hp
    rw [vis_at ho]
    obtain ⟨pre, _, hpre⟩ := src_path hs ho hp
    have hnd := kidsOf_nodup hs ho
    have key : ∀ a ∈ kidsOf os o, ∀ k ∈ a :: vis os n a, ∃ x, PathOf (upO os) k (x ++ a :: pre) := by
      intro a ha k hk
      obtain ⟨hpa, c, hc⟩ := hpre a ha
      rcases List.mem_cons.1 hk with rfl | hk
      · exact ⟨[], hpa⟩
      · obtain ⟨y, _, hyp, _⟩ := vis_path hs n a c _ hc hpa k hk
        exact ⟨y, hyp⟩
    have each : ∀ a ∈ kidsOf os o, (a :: vis os n a).Nodup := by
      intro a ha
      obtain ⟨hpa, c, hc⟩ := hpre a ha
      refine List.nodup_cons.2 ⟨fun hm => ?_, ih a c _ hc hpa⟩
      obtain ⟨y, hy, hyp, _⟩ := vis_path hs n a c _ hc hpa a hm
      have e := path_one hpa hyp
      have := congrArg List.length e
      rw [List.length_append] at this
      have : y.length = 0 := by omega
      exact hy (List.eq_nil_of_length_eq_zero this)
    have gen : ∀ l : List Nat, l.Nodup → (∀ a ∈ l, a ∈ kidsOf os o) → (l.flatMap fun k => k :: vis os n k).Nodup := by
      intro l
      induction l with
      | nil => intro _ _; simp
      | cons a l ihl =>
        intro hn hm
        rw [List.flatMap_cons, List.nodup_append]
        refine ⟨each a (hm a (by simp)), ihl (List.nodup_cons.1 hn).2 (fun b hb => hm b (by simp [hb])), ?_⟩
        intro x hx y hy e
        subst e
        rw [List.mem_flatMap] at hy
        obtain ⟨b, hb, hxb⟩ := hy
        obtain ⟨p1, h1⟩ := key a (hm a (by simp)) x hx
        obtain ⟨p2, h2⟩ := key b (hm b (by simp [hb])) x hxb
        have e := path_one h1 h2
        have e2 := congrArg (fun z => z.reverse[pre.length]?) e
        simp at e2
        subst e2
        exact (List.nodup_cons.1 hn).1 hb
    exact gen _ hnd (fun a ha => ha)
theorem sum_bound (c : Nat → Nat) (M : Nat) (hc : ∀ k, c k ≤ M) (l : List Nat) : (l.map c).sum ≤ l.length * M := by
  induction l with
  | nil => simp
  | cons x l ih => have := hc x; simp only [List.map_cons, List.sum_cons, List.length_cons, Nat.add_mul]; omega
theorem cost_all {ns : List NodeM} {os : List OneM} (hs : Sim ns os) {i : Nat} {o : OneM} (ho : os[i]? = some o) (n M : Nat) (hM : ∀ (k : Nat) c, os[k]? = some c → costO c ≤ M) : costN os n i ≤ os.length * M := by
  obtain ⟨path, hp⟩ := hs.ends i (List.getElem?_eq_some_iff.1 ho).1
  have h1 := cost_vis os n i
  have h2 := sum_bound (costAt os) M (fun k => by
    unfold costAt
    cases hc : os[k]? with
    | none => exact Nat.zero_le _
    | some c => exact hM k c hc) (vis os n i)
  have h3 : (vis os n i).length ≤ os.length := nodup_few _ _ (vis_nodup hs n i o path ho hp) (fun x hx => by
    obtain ⟨_, _, _, c, hc⟩ := vis_path hs n i o path ho hp x hx
    exact (List.getElem?_eq_some_iff.1 hc).1)
  have h4 := Nat.mul_le_mul_right M h3
  omega
end Go.Proofs.Ytfcagiacjpcpeaa
