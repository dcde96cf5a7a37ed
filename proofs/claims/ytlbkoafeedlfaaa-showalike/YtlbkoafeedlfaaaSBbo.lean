/-
  The lines of a tree, plain; that trees that are alike have the same lines. How long the lines of a tree can be. Plain.
-/
import Derived.Test.YtlbkoafeedlfaaaSBbn
import Derived.Test.YtlbkoafeedlfaaaSBbb
import Derived.Test.YtlbkoafeedlfaaaSBbd
namespace Go.Proofs.Ytlbkoafeedlfaaa

def tellE (o : OneM) (d : Nat) : List (Nat × List ByteArray) := tellL o.kind o.space o.name o.data o.system o.attrs d
def sCon : ByteArray := ⟨#[99, 111, 110, 116, 101, 110, 116]⟩
def contE (o : OneM) (d : Nat) : List (Nat × List ByteArray) := if o.inner = -1 then [] else [(d + 1, [⟨#[99, 111, 110, 116, 101, 110, 116]⟩])]
def kidsAt (os : List OneM) (i : Nat) : List Nat := match os[i]? with
  | some o => o.kids
  | none => []
/-- The children of a template's contents. -/
def innerK (os : List OneM) (o : OneM) : List Nat := (innerL o).flatMap (kidsAt os)
def evN (os : List OneM) : Nat → Nat → Nat → List (Nat × List ByteArray)
  | 0, _, _ => []
  | f + 1, x, d => match os[x]? with
    | some o => tellE o d ++ (contE o d ++ (innerK os o).flatMap (fun c => evN os f c (d + 2))) ++ o.kids.flatMap (fun c => evN os f c (d + 1))
    | none => []

section
variable {ns ns' : List NodeM} {os os' : List OneM}
theorem innerK_below (h : Sim ns os) {x : Nat} {o : OneM} (ho : os[x]? = some o) {c : Nat} (hc : c ∈ innerK os o) : ∃ i m, i ∈ innerL o ∧ os[i]? = some m ∧ c ∈ m.kids := by
  unfold innerK at hc
  obtain ⟨i, hi, hci⟩ := List.mem_flatMap.1 hc
  obtain ⟨_, m, hm, _⟩ := h.inner_facts ho hi
  unfold kidsAt at hci
  rw [hm] at hci
  exact ⟨i, m, hi, hm, hci⟩
theorem flatMap_ev {g g' : Nat → List (Nat × List ByteArray)} : ∀ {l : List Nat}, (∀ c ∈ l, g c = g' c) → l.flatMap g = l.flatMap g'
  | [], _ => rfl
  | a :: l, h => by rw [List.flatMap_cons, List.flatMap_cons, h a (by simp), flatMap_ev (fun c hc => h c (by simp [hc]))]
theorem evN_more (h : Sim ns os) : ∀ (f x : Nat) (px : List Nat) (d : Nat), PathOf (upO os) x px → os.length + 1 ≤ f + px.length → evN os (f + 1) x d = evN os f x d
  | 0, x, px, d, hp, hl => by have := path_short hp; omega
  | f + 1, x, px, d, hp, hl => by
    rw [evN, evN]
    cases ho : os[x]? with
    | none => rfl
    | some o =>
      simp only
      have e1 : (o.kids.flatMap fun c => evN os (f + 1) c (d + 1)) = o.kids.flatMap fun c => evN os f c (d + 1) :=
        flatMap_ev fun c hc => evN_more h f c (c :: px) (d + 1) (h.path_below ho (by simp [belowO, hc]) hp) (by simp; omega)
      have e2 : ((innerK os o).flatMap fun c => evN os (f + 1) c (d + 2)) = (innerK os o).flatMap fun c => evN os f c (d + 2) :=
        flatMap_ev fun c hc => by
          obtain ⟨i, m, hi, hm, hcm⟩ := innerK_below h ho hc
          have p1 := h.path_below ho (c := i) (by simp [belowO, hi]) hp
          exact evN_more h f c (c :: i :: px) (d + 2) (h.path_below hm (by simp [belowO, hcm]) p1) (by simp; omega)
      rw [e1, e2]
/-- The lines of a node and of all that is below it. -/
def EV (os : List OneM) (x d : Nat) : List (Nat × List ByteArray) := evN os (os.length + 1) x d
theorem EV_some (h : Sim ns os) {x : Nat} {o : OneM} (ho : os[x]? = some o) (d : Nat) :
    EV os x d = tellE o d ++ (contE o d ++ (innerK os o).flatMap (fun c => EV os c (d + 2))) ++ o.kids.flatMap (fun c => EV os c (d + 1)) := by
  obtain ⟨px, hpx⟩ := h.ends x (List.getElem?_eq_some_iff.1 ho).1
  show evN os (os.length + 1) x d = _
  rw [evN, ho]
  simp only
  have e1 : (o.kids.flatMap fun c => evN os os.length c (d + 1)) = o.kids.flatMap fun c => EV os c (d + 1) :=
    flatMap_ev fun c hc => (evN_more h os.length c (c :: px) (d + 1) (h.path_below ho (by simp [belowO, hc]) hpx) (by simp)).symm
  have e2 : ((innerK os o).flatMap fun c => evN os os.length c (d + 2)) = (innerK os o).flatMap fun c => EV os c (d + 2) :=
    flatMap_ev fun c hc => by
      obtain ⟨i, m, hi, hm, hcm⟩ := innerK_below h ho hc
      have p1 := h.path_below ho (c := i) (by simp [belowO, hi]) hpx
      exact (evN_more h os.length c (c :: i :: px) (d + 2) (h.path_below hm (by simp [belowO, hcm]) p1) (by simp only [List.length_cons]; omega)).symm
  rw [e1, e2]

theorem ba_beq (a b : ByteArray) : (a == b) = decide (a = b) := by
  obtain ⟨x⟩ := a
  obtain ⟨y⟩ := b
  rw [show (ByteArray.mk x == ByteArray.mk y) = (x == y) from rfl]
  by_cases h : x = y
  · subst h; simp
  · rw [decide_eq_false (by intro e; exact h (by injection e))]
    exact beq_eq_false_iff_ne.2 h
theorem ba_comm (a b : ByteArray) : (a == b) = (b == a) := by rw [ba_beq, ba_beq]; exact decide_eq_decide.2 ⟨Eq.symm, Eq.symm⟩
theorem attrsEq_eq : ∀ {l m : List AttrM}, attrsEq l m = true → l = m
  | [], [], _ => rfl
  | [], _ :: _, h => by simp [attrsEq] at h
  | _ :: _, [], h => by simp [attrsEq] at h
  | a :: l, b :: m, h => by
    simp only [attrsEq, attrEq, Bool.and_eq_true, beq_iff_eq, ba_beq, decide_eq_true_eq] at h
    obtain ⟨⟨⟨⟨h1, h2⟩, h3⟩, h4⟩, h5⟩ := h
    rw [attrsEq_eq h5]
    cases a; cases b
    simp only at h1 h2 h3 h4
    subst h1 h2 h3 h4
    rfl
theorem eqD_tell {o p : OneM} (h : eqD o p = true) (d : Nat) : tellE o d = tellE p d := by
  unfold eqD at h
  simp only [Bool.and_eq_true, beq_iff_eq, ba_beq, decide_eq_true_eq] at h
  obtain ⟨⟨⟨⟨⟨h1, h2⟩, h3⟩, h4⟩, h5⟩, h6⟩ := h
  unfold tellE
  rw [h1, h2, h3, h4, h5, attrsEq_eq h6]
theorem allF_ev {g : Nat → Nat → Bool} {e e' : Nat → List (Nat × List ByteArray)} : ∀ {l m : List Nat}, allF g l m = true → (∀ a ∈ l, ∀ b, g a b = true → e a = e' b) → l.flatMap e = m.flatMap e'
  | [], [], _, _ => rfl
  | [], _ :: _, h, _ => by simp [allF] at h
  | _ :: _, [], h, _ => by simp [allF] at h
  | a :: l, b :: m, h, hg => by
    rw [allF, Bool.and_eq_true] at h
    rw [List.flatMap_cons, List.flatMap_cons, hg a (by simp) b h.1, allF_ev h.2 (fun c hc => hg c (by simp [hc]))]
theorem SS_both {x y : Nat} (h : SS os os' x y = true) : ∃ o p, os[x]? = some o ∧ os'[y]? = some p := by
  unfold SS at h
  rw [sameF] at h
  cases ho : os[x]? with
  | none => rw [ho] at h; simp at h
  | some o =>
    cases hp : os'[y]? with
    | none => rw [ho, hp] at h; simp at h
    | some p => exact ⟨o, p, rfl, rfl⟩
theorem innerL_inner {o : OneM} : innerL o = [] ↔ o.inner = -1 := by
  unfold innerL
  split
  · simp [*]
  · simp [*]
/-- What is alike has the same lines. -/
theorem EV_alike (h : Sim ns os) (h' : Sim ns' os') : ∀ (n x y d : Nat), (TR os x).length ≤ n → SS os os' x y = true → EV os x d = EV os' y d := by
  intro n
  induction n with
  | zero =>
    intro x y d hn hs
    obtain ⟨o, p, ho, hp⟩ := SS_both hs
    have := TR_len h ho
    omega
  | succ n ih =>
    intro x y d hn hs
    obtain ⟨o, p, ho, hp⟩ := SS_both hs
    have hl := TR_len h ho
    rw [SS_some h ho hp, Bool.and_eq_true, Bool.and_eq_true] at hs
    obtain ⟨⟨h1, h2⟩, h3⟩ := hs
    have small : ∀ {l : List Nat} {c : Nat}, c ∈ l → (TR os c).length ≤ (l.flatMap (TR os)).length := by
      intro l c hc
      induction l with
      | nil => cases hc
      | cons a l ih =>
        rw [List.flatMap_cons, List.length_append]
        rcases List.mem_cons.1 hc with rfl | hc
        · omega
        · have := ih hc; omega
    rw [EV_some h ho, EV_some h' hp, eqD_tell h1]
    have e1 : (o.kids.flatMap fun c => EV os c (d + 1)) = p.kids.flatMap fun c => EV os' c (d + 1) :=
      allF_ev h2 (fun a ha b hab => ih a b (d + 1) (by have := small ha; omega) hab)
    have e2 : (innerK os o).flatMap (fun c => EV os c (d + 2)) = (innerK os' p).flatMap (fun c => EV os' c (d + 2)) ∧ contE o d = contE p d := by
      cases hi : innerL o with
      | nil =>
        rw [hi] at h3
        cases hj : innerL p with
        | nil =>
          refine ⟨by unfold innerK; rw [hi, hj]; rfl, ?_⟩
          unfold contE
          rw [if_pos (innerL_inner.1 hi), if_pos (innerL_inner.1 hj)]
        | cons j s => rw [hj] at h3; simp [allF] at h3
      | cons i r =>
        rw [hi] at h3
        cases hj : innerL p with
        | nil => rw [hj] at h3; simp [allF] at h3
        | cons j s =>
          rw [hj] at h3
          have hr : r = [] := by
            unfold innerL at hi
            split at hi
            · cases hi
            · cases hi; rfl
          have hs' : s = [] := by
            unfold innerL at hj
            split at hj
            · cases hj
            · cases hj; rfl
          subst hr hs'
          rw [allF, Bool.and_eq_true] at h3
          obtain ⟨oi, pj, hoi, hpj⟩ := SS_both h3.1
          have hsi := h3.1
          rw [SS_some h hoi hpj, Bool.and_eq_true, Bool.and_eq_true] at hsi
          have hli := TR_len h hoi
          have hin : (TR os i).length ≤ ((innerL o).flatMap (TR os)).length := small (by rw [hi]; simp)
          constructor
          · unfold innerK
            rw [hi, hj]
            simp only [List.flatMap_cons, List.flatMap_nil, List.append_nil]
            unfold kidsAt
            rw [hoi, hpj]
            show (oi.kids.flatMap fun c => EV os c (d + 2)) = pj.kids.flatMap fun c => EV os' c (d + 2)
            exact allF_ev hsi.1.2 (fun a ha b hab => ih a b (d + 2) (by have := small ha; omega) hab)
          · unfold contE
            rw [if_neg (fun e => by rw [innerL_inner.2 e] at hi; cases hi), if_neg (fun e => by rw [innerL_inner.2 e] at hj; cases hj)]
    rw [e1, e2.1, e2.2]

/-- Alike goes both ways. -/
theorem attrsEq_comm : ∀ (l m : List AttrM), attrsEq l m = attrsEq m l
  | [], [] => rfl
  | [], _ :: _ => rfl
  | _ :: _, [] => rfl
  | a :: l, b :: m => by
    rw [attrsEq, attrsEq, attrsEq_comm l m]
    unfold attrEq
    congr 1
    rw [BEq.comm (a := a.space), ba_comm a.pre, ba_comm a.name, ba_comm a.val]
theorem eqD_comm (o p : OneM) : eqD o p = eqD p o := by
  unfold eqD
  rw [attrsEq_comm, BEq.comm (a := o.kind), BEq.comm (a := o.space), ba_comm o.name, ba_comm o.data, ba_comm o.system]
theorem allF_comm {g g' : Nat → Nat → Bool} : ∀ {l m : List Nat}, (∀ a ∈ l, ∀ b, g a b = g' b a) → allF g l m = allF g' m l
  | [], [], _ => rfl
  | [], _ :: _, _ => rfl
  | _ :: _, [], _ => rfl
  | a :: l, b :: m, h => by rw [allF, allF, h a (by simp) b, allF_comm (fun c hc => h c (by simp [hc]))]
theorem SS_none {x y : Nat} (h : os[x]? = none ∨ os'[y]? = none) : SS os os' x y = false := by
  cases hs : SS os os' x y with
  | false => rfl
  | true =>
    obtain ⟨o, p, ho, hp⟩ := SS_both hs
    rcases h with h | h
    · rw [ho] at h; cases h
    · rw [hp] at h; cases h
theorem SS_comm (h : Sim ns os) (h' : Sim ns' os') : ∀ (n x y : Nat), (TR os x).length ≤ n → SS os os' x y = SS os' os y x := by
  intro n
  induction n with
  | zero =>
    intro x y hn
    cases ho : os[x]? with
    | none => rw [SS_none (.inl ho), SS_none (.inr ho)]
    | some o => have := TR_len h ho; omega
  | succ n ih =>
    intro x y hn
    cases ho : os[x]? with
    | none => rw [SS_none (.inl ho), SS_none (.inr ho)]
    | some o =>
      cases hp : os'[y]? with
      | none => rw [SS_none (.inr hp), SS_none (.inl hp)]
      | some p =>
        have hl := TR_len h ho
        have small : ∀ {l : List Nat} {c : Nat}, c ∈ l → (TR os c).length ≤ (l.flatMap (TR os)).length := by
          intro l c hc
          induction l with
          | nil => cases hc
          | cons a l ih =>
            rw [List.flatMap_cons, List.length_append]
            rcases List.mem_cons.1 hc with rfl | hc
            · omega
            · have := ih hc; omega
        rw [SS_some h ho hp, SS_some h' hp ho, eqD_comm o p,
          allF_comm (g := SS os os') (g' := SS os' os) (fun a ha b => ih a b (by have := small ha; omega)),
          allF_comm (g := SS os os') (g' := SS os' os) (fun a ha b => ih a b (by have := small ha; omega))]
theorem SSI_comm (h : Sim ns os) (h' : Sim ns' os') (x y : Int) : SSI os os' x y = SSI os' os y x := by
  unfold SSI
  rw [SS_comm h h' _ _ _ (Nat.le_refl _), Bool.and_comm (hasO os x)]

/-- A tree is alike to itself. -/
theorem attrsEq_self : ∀ (l : List AttrM), attrsEq l l = true
  | [] => rfl
  | a :: l => by rw [attrsEq, attrsEq_self l]; simp [attrEq, ba_beq]
theorem allF_self {g : Nat → Nat → Bool} : ∀ {l : List Nat}, (∀ a ∈ l, g a a = true) → allF g l l = true
  | [], _ => rfl
  | a :: l, h => by rw [allF, h a (by simp), allF_self (fun c hc => h c (by simp [hc]))]; rfl
theorem SS_self (h : Sim ns os) : ∀ (n x : Nat) (o : OneM), os[x]? = some o → (TR os x).length ≤ n → SS os os x x = true := by
  intro n
  induction n with
  | zero => intro x o ho hn; have := TR_len h ho; omega
  | succ n ih =>
    intro x o ho hn
    have hl := TR_len h ho
    have small : ∀ {l : List Nat} {c : Nat}, c ∈ l → (TR os c).length ≤ (l.flatMap (TR os)).length := by
      intro l c hc
      induction l with
      | nil => cases hc
      | cons a l ih =>
        rw [List.flatMap_cons, List.length_append]
        rcases List.mem_cons.1 hc with rfl | hc
        · omega
        · have := ih hc; omega
    rw [SS_some h ho ho, allF_self (l := o.kids) (fun c hc => ?_), allF_self (l := innerL o) (fun c hc => ?_)]
    · unfold eqD; simp [attrsEq_self, ba_beq]
    · obtain ⟨_, m, hm, _⟩ := h.inner_facts ho hc
      exact ih c m hm (by have := small hc; omega)
    · obtain ⟨m, hm, _⟩ := h.down x o c ho hc
      exact ih c m hm (by have := small hc; omega)
theorem SSI_self (h : Sim ns os) (x : Int) : SSI os os x x = hasO os x := by
  unfold SSI
  cases hx : hasO os x with
  | false => rfl
  | true =>
    obtain ⟨i, o, rfl, ho⟩ := hasO_yes hx
    rw [Int.toNat_natCast, SS_self h _ i o ho (Nat.le_refl _)]
    rfl
end
end Go.Proofs.Ytlbkoafeedlfaaa

namespace Go.Proofs.Ytlbkoafeedlfaaa

section
variable {P : ShA → Prop}
theorem all_swp {xs : List ShA} (h : ∀ x ∈ xs, P x) (i j : Nat) : ∀ x ∈ swp xs i j, P x := by
  unfold swp
  split
  · rename_i a b ha hb
    intro x hx
    rcases List.mem_or_eq_of_mem_set hx with hx | rfl
    · rcases List.mem_or_eq_of_mem_set hx with hx | rfl
      · exact h x hx
      · exact h _ (List.mem_of_getElem? hb)
    · exact h _ (List.mem_of_getElem? ha)
  · exact h
theorem all_swr {xs : List ShA} (h : ∀ x ∈ xs, P x) (a b : Nat) : ∀ n, ∀ x ∈ swr xs a b n, P x
  | 0 => h
  | n + 1 => all_swp (all_swr h a b n) _ _
theorem all_insJ (a : Nat) : ∀ (j : Nat) {xs : List ShA}, (∀ x ∈ xs, P x) → ∀ x ∈ insJ a j xs, P x
  | 0, _, h => h
  | j + 1, xs, h => by
    unfold insJ
    split
    · exact all_insJ a j (all_swp h _ _)
    · exact h
theorem all_insI (a : Nat) {xs : List ShA} (h : ∀ x ∈ xs, P x) : ∀ k, ∀ x ∈ insI a xs k, P x
  | 0 => h
  | k + 1 => all_insJ a _ (all_insI a h k)
theorem all_rotF : ∀ (f : Nat) {xs : List ShA} (m i j : Nat), (∀ x ∈ xs, P x) → ∀ x ∈ rotF f xs m i j, P x
  | 0, _, _, _, _, h => h
  | f + 1, xs, m, i, j, h => by
    rw [rotF]
    split
    · exact all_swr h _ _ _
    · split
      · exact all_rotF f _ _ _ (all_swr h _ _ _)
      · exact all_rotF f _ _ _ (all_swr h _ _ _)
theorem all_mvU {xs : List ShA} (h : ∀ x ∈ xs, P x) (a : Nat) : ∀ n, ∀ x ∈ mvU xs a n, P x
  | 0 => h
  | n + 1 => all_swp (all_mvU h a n) _ _
theorem all_mvD {xs : List ShA} (h : ∀ x ∈ xs, P x) (m : Nat) : ∀ n, ∀ x ∈ mvD xs m n, P x
  | 0 => h
  | n + 1 => all_swp (all_mvD h m n) _ _
theorem all_symF : ∀ (f : Nat) {xs : List ShA} (a m b : Nat), (∀ x ∈ xs, P x) → ∀ x ∈ symF f xs a m b, P x
  | 0, _, _, _, _, h => h
  | f + 1, xs, a, m, b, h => by
    rw [symF]
    split
    · exact all_mvU h _ _
    · split
      · exact all_mvD h _ _
      · simp only
        have h1 : ∀ (ys : List ShA) (c : Prop) [Decidable c] (p q r : Nat), (∀ x ∈ ys, P x) → ∀ x ∈ (if c then rotM ys p q r else ys), P x := by
          intro ys c _ p q r h; split
          · exact all_rotF _ _ _ _ h
          · exact h
        have h2 : ∀ (ys : List ShA) (c : Prop) [Decidable c] (p q r : Nat), (∀ x ∈ ys, P x) → ∀ x ∈ (if c then symF f ys p q r else ys), P x := by
          intro ys c _ p q r h; split
          · exact all_symF f _ _ _ h
          · exact h
        exact h2 _ _ _ _ _ (h2 _ _ _ _ _ (h1 _ _ _ _ _ h))
theorem all_blkF (n : Nat) : ∀ (f : Nat) {xs : List ShA} (a : Nat), (∀ x ∈ xs, P x) → ∀ x ∈ blkF n f xs a, P x
  | 0, _, _, h => all_insI _ h _
  | f + 1, xs, a, h => by
    rw [blkF]
    split
    · exact all_blkF n f _ (all_insI _ h _)
    · exact all_insI _ h _
theorem all_passF (n bs : Nat) : ∀ (f : Nat) {xs : List ShA} (a : Nat), (∀ x ∈ xs, P x) → ∀ x ∈ passF n bs f xs a, P x
  | 0, _, _, h => by
    rw [passF]; split
    · exact all_symF _ _ _ _ h
    · exact h
  | f + 1, xs, a, h => by
    rw [passF]
    split
    · exact all_passF n bs f _ (all_symF _ _ _ _ h)
    · split
      · exact all_symF _ _ _ _ h
      · exact h
theorem all_mrgF (n : Nat) : ∀ (f : Nat) {xs : List ShA} (bs : Nat), (∀ x ∈ xs, P x) → ∀ x ∈ mrgF n f xs bs, P x
  | 0, _, _, h => h
  | f + 1, xs, bs, h => by
    rw [mrgF]
    split
    · exact all_mrgF n f _ (all_passF _ _ _ _ h)
    · exact h
theorem all_sortS {xs : List ShA} (h : ∀ x ∈ xs, P x) : ∀ x ∈ sortS xs, P x := all_mrgF _ _ _ (all_blkF _ _ _ h)
end

/-- Texts of the length that package node lets in. -/
structure SmallN (o : OneM) : Prop where
  name : o.name.size ≤ 1048576
  data : o.data.size ≤ 1048576
  system : o.system.size ≤ 1048576
  few : o.attrs.length ≤ 1024
  attrs : ∀ a ∈ o.attrs, a.name.size ≤ 1048576 ∧ a.val.size ≤ 1048576
def SmallO (os : List OneM) : Prop := ∀ o ∈ os, SmallN o

theorem shA_small {o : OneM} (h : SmallN o) : ∀ x ∈ sortS (o.attrs.map shA), x.name.size ≤ 1048600 ∧ x.val.size ≤ 1048576 := by
  apply all_sortS
  intro x hx
  obtain ⟨a, ha, rfl⟩ := List.mem_map.1 hx
  have h1 := h.attrs a ha
  have h2 := wordA_size a.space
  unfold shA
  simp only [ByteArray.size_append]
  omega
theorem sizes3 (a b c : ByteArray) : sizesP [a, b, c] = a.size + b.size + c.size := by simp [sizesP]; omega
theorem sizes4 (a b c d : ByteArray) : sizesP [a, b, c, d] = a.size + b.size + c.size + d.size := by simp [sizesP]; omega
theorem sizes7 (a b c d e f g : ByteArray) : sizesP [a, b, c, d, e, f, g] = a.size + b.size + c.size + d.size + e.size + f.size + g.size := by simp [sizesP]; omega

theorem tell_bound {o : OneM} (h : SmallN o) {d : Nat} (hd : d ≤ 1900) : ∀ e ∈ tellE o d, e.1 ≤ 1901 ∧ e.2.length ≤ 7 ∧ sizesP e.2 ≤ 4000000 := by
  have hn := h.name
  have hda := h.data
  have hsy := h.system
  intro e he
  unfold tellE tellL at he
  split at he
  · rcases List.mem_cons.1 he with rfl | he
    · have := wordE_size o.space
      refine ⟨by simp; omega, by simp, ?_⟩
      rw [sizes4]
      show 1 + _ + _ + 1 ≤ _
      omega
    · obtain ⟨x, hx, rfl⟩ := List.mem_map.1 he
      have := shA_small h x hx
      unfold attrL
      refine ⟨by simp; omega, by simp, ?_⟩
      simp only
      rw [sizes4]
      show _ + 2 + _ + 1 ≤ _
      omega
  · split at he
    · rw [List.mem_singleton.1 he]
      refine ⟨by simp; omega, by simp, ?_⟩
      rw [sizes3]
      show 1 + _ + 1 ≤ _
      omega
    · split at he
      · rw [List.mem_singleton.1 he]
        refine ⟨by simp; omega, by simp, ?_⟩
        rw [sizes3]
        show 5 + _ + 4 ≤ _
        omega
      · split at he
        · split at he
          · rw [List.mem_singleton.1 he]
            refine ⟨by simp; omega, by simp, ?_⟩
            rw [sizes3]
            show 10 + _ + 1 ≤ _
            omega
          · rw [List.mem_singleton.1 he]
            refine ⟨by simp; omega, by simp, ?_⟩
            rw [sizes7]
            show 10 + _ + 2 + _ + 3 + _ + 2 ≤ _
            omega
        · cases he
theorem tell_ok {o : OneM} (h : SmallN o) {d : Nat} (hd : d ≤ 1900) : ∀ e ∈ tellE o d, EvOk e := fun e he => by
  obtain ⟨h1, h2, h3⟩ := tell_bound h hd e he
  exact ⟨by omega, by omega, by omega⟩
theorem tell_len {o : OneM} (h : SmallN o) (d : Nat) : (tellE o d).length ≤ 1025 := by
  have := h.few
  unfold tellE tellL
  split
  · rw [List.length_cons, List.length_map, sortS_len, List.length_map]; omega
  · split
    · simp
    · split
      · simp
      · split
        · split <;> simp
        · simp
theorem evZ_le {c : Nat} : ∀ (E : List (Nat × List ByteArray)), (∀ e ∈ E, lineZ e.1 e.2 ≤ c) → evZ E ≤ c * E.length
  | [], _ => by simp [evZ]
  | e :: E, h => by
    have h1 := evZ_le E (fun q hq => h q (List.mem_cons_of_mem _ hq))
    have h2 := h e (by simp)
    unfold evZ at *
    rw [List.map_cons, List.sum_cons, List.length_cons, Nat.mul_add]
    omega
theorem tell_z {o : OneM} (h : SmallN o) {d : Nat} (hd : d ≤ 1900) : evZ (tellE o d) ≤ 4200000000 := by
  have h1 := evZ_le (c := 4010000) (tellE o d) (fun e he => by
    obtain ⟨a, _, b⟩ := tell_bound h hd e he
    unfold lineZ; omega)
  have h2 := tell_len h d
  have h3 : 4010000 * (tellE o d).length ≤ 4010000 * 1025 := Nat.mul_le_mul_left _ h2
  omega
theorem cont_z (o : OneM) {d : Nat} (hd : d ≤ 1900) : evZ (contE o d) ≤ 10000 := by
  unfold contE
  split
  · simp [evZ]
  · rw [evZ_one]; unfold lineZ; show 3 + 2 * (d + 1) + 7 ≤ _; omega
theorem cont_ok (o : OneM) {d : Nat} (hd : d ≤ 1900) : ∀ e ∈ contE o d, EvOk e := by
  unfold contE
  split
  · intro e he; cases he
  · intro e he
    rw [List.mem_singleton.1 he]
    exact ⟨by simp; omega, by simp, by show 7 ≤ _; omega⟩

section
variable {ns : List NodeM} {os : List OneM}
theorem evZ_flat {g : Nat → List (Nat × List ByteArray)} {f : Nat → List Nat} {c : Nat} : ∀ {l : List Nat}, (∀ x ∈ l, evZ (g x) ≤ c * (f x).length) → evZ (l.flatMap g) ≤ c * (l.flatMap f).length
  | [], _ => by simp [evZ]
  | a :: l, h => by
    have h1 := h a (by simp)
    have h2 := evZ_flat (l := l) (fun x hx => h x (by simp [hx]))
    rw [List.flatMap_cons, List.flatMap_cons, evZ_append, List.length_append, Nat.mul_add]
    omega
theorem EV_bound (h : Sim ns os) (hs : SmallO os) (hl : os.length ≤ 900) : ∀ (n x d : Nat) (px : List Nat), (TR os x).length ≤ n → PathOf (upO os) x px → d ≤ 2 * px.length → evZ (EV os x d) ≤ 5000000000 * (TR os x).length := by
  intro n
  induction n with
  | zero =>
    intro x d px hn hp hd
    have hx : x < os.length := path_in hp x (path_self hp)
    have := TR_len h (List.getElem?_eq_getElem hx)
    omega
  | succ n ih =>
    intro x d px hn hp hd
    have hx : x < os.length := path_in hp x (path_self hp)
    obtain ⟨o, ho⟩ : ∃ o, os[x]? = some o := ⟨_, List.getElem?_eq_getElem hx⟩
    have hlen := TR_len h ho
    have hps := path_short hp
    have hsm := hs o (List.mem_of_getElem? ho)
    have hd2 : d ≤ 1900 := by omega
    have small : ∀ {l : List Nat} {c : Nat}, c ∈ l → (TR os c).length ≤ (l.flatMap (TR os)).length := by
      intro l c hc
      induction l with
      | nil => cases hc
      | cons a l ih =>
        rw [List.flatMap_cons, List.length_append]
        rcases List.mem_cons.1 hc with rfl | hc
        · omega
        · have := ih hc; omega
    rw [EV_some h ho, evZ_append, evZ_append, evZ_append]
    have t1 := tell_z hsm hd2
    have t2 := cont_z o hd2
    have t3 : evZ (o.kids.flatMap fun c => EV os c (d + 1)) ≤ 5000000000 * (o.kids.flatMap (TR os)).length := evZ_flat (fun c hc => by
      have hpc := h.path_below ho (c := c) (by simp [belowO, hc]) hp
      exact ih c (d + 1) (c :: px) (by have := small hc; omega) hpc (by simp only [List.length_cons]; omega))
    have t4 : evZ ((innerK os o).flatMap fun c => EV os c (d + 2)) ≤ 5000000000 * ((innerL o).flatMap (TR os)).length := by
      cases hi : innerL o with
      | nil => unfold innerK; rw [hi]; simp [evZ]
      | cons i r =>
        have hr : r = [] := by
          unfold innerL at hi
          split at hi
          · cases hi
          · cases hi; rfl
        subst hr
        obtain ⟨_, m, hm, _⟩ := h.inner_facts ho (c := i) (by rw [hi]; simp)
        have hlm := TR_len h hm
        have hpi := h.path_below ho (c := i) (by simp [belowO, hi]) hp
        have e1 : innerK os o = m.kids := by unfold innerK kidsAt; rw [hi]; simp [hm]
        have e2 : ([i].flatMap (TR os)) = TR os i := by simp
        have hin : (TR os i).length ≤ ((innerL o).flatMap (TR os)).length := small (by rw [hi]; simp)
        rw [e1, e2]
        have := evZ_flat (g := fun c => EV os c (d + 2)) (f := TR os) (c := 5000000000) (l := m.kids) (fun c hc => by
          have hpc := h.path_below hm (c := c) (by simp [belowO, hc]) hpi
          exact ih c (d + 2) (c :: i :: px) (by have := small hc; omega) hpc (by simp only [List.length_cons]; omega))
        have h5 : 5000000000 * (m.kids.flatMap (TR os)).length ≤ 5000000000 * (TR os i).length := Nat.mul_le_mul_left _ (by omega)
        omega
    have e : 5000000000 * (TR os x).length = 5000000000 + 5000000000 * (o.kids.flatMap (TR os)).length + 5000000000 * ((innerL o).flatMap (TR os)).length := by
      rw [hlen]; omega
    omega
/-- The lines of what is below a node. -/
def showE (os : List OneM) (x : Nat) : List (Nat × List ByteArray) := (kidsAt os x).flatMap fun c => EV os c 0
theorem showE_bound (h : Sim ns os) (hs : SmallO os) (hl : os.length ≤ 900) {x : Nat} {o : OneM} (ho : os[x]? = some o) : evZ (showE os x) ≤ 50000000000000 := by
  unfold showE kidsAt
  rw [ho]
  simp only
  obtain ⟨px, hpx⟩ := h.ends x (List.getElem?_eq_some_iff.1 ho).1
  have t := evZ_flat (g := fun c => EV os c 0) (f := TR os) (c := 5000000000) (l := o.kids) (fun c hc => by
    have hpc := h.path_below ho (c := c) (by simp [belowO, hc]) hpx
    exact EV_bound h hs hl _ c 0 _ (Nat.le_refl _) hpc (by omega))
  have hlen := TR_len h ho
  have h2 : (TR os x).length ≤ os.length := tree_short h _ _
  have h3 : 5000000000 * (o.kids.flatMap (TR os)).length ≤ 5000000000 * 900 := Nat.mul_le_mul_left _ (by omega)
  omega
end
end Go.Proofs.Ytlbkoafeedlfaaa
