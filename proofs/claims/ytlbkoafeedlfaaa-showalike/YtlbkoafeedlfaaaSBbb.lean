/-
  Trees, plain: what is below a node, each met once; whether two trees are alike. From the nodes that nothing is above each node is met, once. Plain.
-/
import Derived.Test.YtlbkoafeedlfaaaSBaq
namespace Go.Proofs.Ytlbkoafeedlfaaa

def innerL (o : OneM) : List Nat := if o.inner = -1 then [] else [o.inner.toNat]
/-- What hangs on a node: its children, and a template's contents. -/
def belowO (o : OneM) : List Nat := o.kids ++ innerL o

section
variable {ns : List NodeM} {os : List OneM}

theorem Sim.inner_facts (h : Sim ns os) {x : Nat} {o : OneM} (ho : os[x]? = some o) {c : Nat} (hc : c ∈ innerL o) : o.inner = (c : Int) ∧ ∃ m, os[c]? = some m ∧ m.up = -1 ∧ m.host = (x : Int) := by
  unfold innerL at hc
  split at hc
  · cases hc
  · rename_i hne
    rcases h.inner x o ho with e | ⟨e, m, hm, hh⟩
    · exact absurd e hne
    · have hcx : c = x + 1 := by
        have := List.mem_singleton.1 hc
        omega
      subst hcx
      refine ⟨by omega, m, hm, ?_, hh⟩
      rcases h.host _ m hm with e2 | ⟨hk, _⟩
      · omega
      · exact h.alone _ m hm (.inr hk)

theorem Sim.below_up (h : Sim ns os) {x : Nat} {o : OneM} (ho : os[x]? = some o) {c : Nat} (hc : c ∈ belowO o) : ∃ m, os[c]? = some m ∧ upO os c = some (x : Int) := by
  unfold belowO at hc
  rcases List.mem_append.1 hc with hc | hc
  · obtain ⟨m, hm, hu⟩ := h.down x o c ho hc
    refine ⟨m, hm, ?_⟩
    unfold upO
    rw [hm, Option.map_some, hu, if_neg (by omega)]
  · obtain ⟨_, m, hm, hu, hh⟩ := h.inner_facts ho hc
    refine ⟨m, hm, ?_⟩
    unfold upO
    rw [hm, Option.map_some, if_pos hu, hh]

theorem Sim.below_nodup (h : Sim ns os) {x : Nat} {o : OneM} (ho : os[x]? = some o) : (belowO o).Nodup := by
  unfold belowO
  refine List.nodup_append.2 ⟨(h.kids x o ho).nodup, ?_, fun a ha b hb e => ?_⟩
  · unfold innerL; split
    · exact List.nodup_nil
    · simp
  · subst e
    obtain ⟨m, hm, hu⟩ := h.down x o a ho ha
    obtain ⟨_, m2, hm2, hu2, _⟩ := h.inner_facts ho hb
    rw [hm] at hm2; cases hm2; omega

theorem Sim.path_below (h : Sim ns os) {x : Nat} {o : OneM} (ho : os[x]? = some o) {c : Nat} (hc : c ∈ belowO o) {px : List Nat} (hp : PathOf (upO os) x px) : PathOf (upO os) c (c :: px) := by
  obtain ⟨m, hm, hu⟩ := h.below_up ho hc
  exact ⟨rfl, _, hu, hp⟩

theorem path_suffix {f : Nat → Option Int} {x : Nat} : ∀ {l : List Nat} {k : Int}, PathOf f k l → x ∈ l → ∃ pre t, l = pre ++ t ∧ PathOf f x t
  | [], _, _, hx => by cases hx
  | i :: r, k, h, hx => by
    by_cases e : i = x
    · subst e; exact ⟨[], i :: r, rfl, rfl, h.2⟩
    · obtain ⟨_, m, hm, hr⟩ := h
      obtain ⟨pre, t, rfl, ht⟩ := path_suffix hr ((List.mem_cons.1 hx).resolve_left (fun e2 => e e2.symm))
      exact ⟨i :: pre, t, rfl, ht⟩
theorem path_self {f : Nat → Option Int} {x : Nat} {l : List Nat} (h : PathOf f (x : Int) l) : x ∈ l := by
  cases l with
  | nil => have : (x : Int) = -1 := h; omega
  | cons i r => have := h.1; have e : i = x := by omega
                subst e; simp
theorem path_short {l : List Nat} {k : Int} (h : PathOf (upO os) k l) : l.length ≤ os.length := by
  have := List.Nodup.length_le_of_subset (path_nodup h) (l₂ := List.range os.length) (fun x hx => List.mem_range.2 (path_in h x hx))
  simpa using this

def tree (os : List OneM) : Nat → Nat → List Nat
  | 0, _ => []
  | f + 1, x => match os[x]? with
    | some o => x :: (belowO o).flatMap (tree os f)
    | none => []

theorem tree_path (h : Sim ns os) : ∀ (f x y : Nat), y ∈ tree os f x → ∃ py, PathOf (upO os) y py ∧ x ∈ py
  | 0, _, _, hy => by cases hy
  | f + 1, x, y, hy => by
    unfold tree at hy
    cases ho : os[x]? with
    | none => rw [ho] at hy; cases hy
    | some o =>
      rw [ho] at hy
      obtain ⟨px, hpx⟩ := h.ends x (List.getElem?_eq_some_iff.1 ho).1
      rcases List.mem_cons.1 hy with rfl | hy
      · exact ⟨px, hpx, path_self hpx⟩
      · obtain ⟨c, hc, hyc⟩ := List.mem_flatMap.1 hy
        obtain ⟨py, hpy, hin⟩ := tree_path h f c y hyc
        obtain ⟨pre, t, rfl, ht⟩ := path_suffix hpy hin
        have e := path_one ht (h.path_below ho hc hpx)
        subst e
        exact ⟨_, hpy, by simp [path_self hpx]⟩

theorem nodup_flat {g : Nat → List Nat} : ∀ {l : List Nat}, l.Nodup → (∀ x ∈ l, (g x).Nodup) → (∀ x ∈ l, ∀ x' ∈ l, ∀ y, y ∈ g x → y ∈ g x' → x = x') → (l.flatMap g).Nodup
  | [], _, _, _ => List.nodup_nil
  | a :: l, hn, h1, h2 => by
    rw [List.flatMap_cons]
    refine List.nodup_append.2 ⟨h1 a (by simp), nodup_flat (List.nodup_cons.1 hn).2 (fun x hx => h1 x (by simp [hx])) (fun x hx x' hx' => h2 x (by simp [hx]) x' (by simp [hx'])), fun y hy z hz e => ?_⟩
    subst e
    obtain ⟨c, hc, hyc⟩ := List.mem_flatMap.1 hz
    have := h2 a (by simp) c (by simp [hc]) y hy hyc
    subst this
    exact (List.nodup_cons.1 hn).1 hc

theorem tree_nodup (h : Sim ns os) : ∀ (f x : Nat), (tree os f x).Nodup
  | 0, _ => List.nodup_nil
  | f + 1, x => by
    unfold tree
    cases ho : os[x]? with
    | none => exact List.nodup_nil
    | some o =>
      obtain ⟨px, hpx⟩ := h.ends x (List.getElem?_eq_some_iff.1 ho).1
      refine List.nodup_cons.2 ⟨fun hin => ?_, nodup_flat (h.below_nodup ho) (fun c _ => tree_nodup h f c) (fun c hc c' hc' y hy hy' => ?_)⟩
      · obtain ⟨c, hc, hxc⟩ := List.mem_flatMap.1 hin
        obtain ⟨py, hpy, hcin⟩ := tree_path h f c x hxc
        obtain ⟨pre, t, e, ht⟩ := path_suffix hpy hcin
        have e1 := path_one ht (h.path_below ho hc hpx)
        have e2 := path_one hpy hpx
        have := congrArg List.length e
        rw [e1, e2, List.length_append, List.length_cons] at this
        omega
      · obtain ⟨py, hpy, hin⟩ := tree_path h f c y hy
        obtain ⟨py', hpy', hin'⟩ := tree_path h f c' y hy'
        have e0 := path_one hpy' hpy
        subst e0
        obtain ⟨pre, t, e, ht⟩ := path_suffix hpy hin
        obtain ⟨pre', t', e', ht'⟩ := path_suffix hpy hin'
        have e1 := path_one ht (h.path_below ho hc hpx)
        have e2 := path_one ht' (h.path_below ho hc' hpx)
        rw [e1] at e
        rw [e2] at e'
        have e3 := e.symm.trans e'
        have := List.append_inj_right' e3 (by simp)
        simpa using this

theorem tree_in (h : Sim ns os) (f x y : Nat) (hy : y ∈ tree os f x) : y < os.length := by
  obtain ⟨py, hpy, _⟩ := tree_path h f x y hy
  exact path_in hpy y (path_self hpy)
theorem tree_short (h : Sim ns os) (f x : Nat) : (tree os f x).length ≤ os.length := by
  have := List.Nodup.length_le_of_subset (tree_nodup h f x) (l₂ := List.range os.length) (fun y hy => List.mem_range.2 (tree_in h f x y hy))
  simpa using this

theorem flatMap_same {g g' : Nat → List Nat} : ∀ {l : List Nat}, (∀ c ∈ l, g c = g' c) → l.flatMap g = l.flatMap g'
  | [], _ => rfl
  | a :: l, h => by rw [List.flatMap_cons, List.flatMap_cons, h a (by simp), flatMap_same (fun c hc => h c (by simp [hc]))]

theorem tree_more (h : Sim ns os) : ∀ (f x : Nat) (px : List Nat), PathOf (upO os) x px → os.length + 1 ≤ f + px.length → tree os (f + 1) x = tree os f x
  | 0, x, px, hp, hl => by have := path_short hp; omega
  | f + 1, x, px, hp, hl => by
    rw [tree, tree]
    cases ho : os[x]? with
    | none => rfl
    | some o =>
      simp only
      rw [flatMap_same fun c hc => tree_more h f c (c :: px) (h.path_below ho hc hp) (by simp; omega)]

def TR (os : List OneM) (x : Nat) : List Nat := tree os (os.length + 1) x
theorem TR_some (h : Sim ns os) {x : Nat} {o : OneM} (ho : os[x]? = some o) : TR os x = x :: (belowO o).flatMap (TR os) := by
  obtain ⟨px, hpx⟩ := h.ends x (List.getElem?_eq_some_iff.1 ho).1
  show tree os (os.length + 1) x = _
  rw [tree, ho]
  show x :: _ = x :: _
  congr 1
  exact flatMap_same fun c hc => (tree_more h os.length c (c :: px) (h.path_below ho hc hpx) (by simp)).symm

def attrEq (a b : AttrM) : Bool := a.space == b.space && a.pre == b.pre && a.name == b.name && a.val == b.val
def attrsEq : List AttrM → List AttrM → Bool
  | [], [] => true
  | a :: l, b :: m => attrEq a b && attrsEq l m
  | _, _ => false
def eqD (o p : OneM) : Bool := o.kind == p.kind && o.space == p.space && o.name == p.name && o.data == p.data && o.system == p.system && attrsEq o.attrs p.attrs
def allF (g : Nat → Nat → Bool) : List Nat → List Nat → Bool
  | [], [] => true
  | a :: l, b :: m => g a b && allF g l m
  | _, _ => false
theorem allF_same {g g' : Nat → Nat → Bool} : ∀ {l m : List Nat}, (∀ c ∈ l, ∀ d, g c d = g' c d) → allF g l m = allF g' l m
  | [], [], _ => rfl
  | [], _ :: _, _ => rfl
  | _ :: _, [], _ => rfl
  | a :: l, b :: m, h => by rw [allF, allF, h a (by simp), allF_same (fun c hc => h c (by simp [hc]))]

def sameF (os os' : List OneM) : Nat → Nat → Nat → Bool
  | 0, _, _ => false
  | f + 1, x, y => match os[x]?, os'[y]? with
    | some o, some p => eqD o p && allF (sameF os os' f) o.kids p.kids && allF (sameF os os' f) (innerL o) (innerL p)
    | _, _ => false

theorem same_more (h : Sim ns os) (os' : List OneM) : ∀ (f x : Nat) (px : List Nat), PathOf (upO os) x px → os.length + 1 ≤ f + px.length → ∀ y, sameF os os' (f + 1) x y = sameF os os' f x y
  | 0, x, px, hp, hl, _ => by have := path_short hp; omega
  | f + 1, x, px, hp, hl, y => by
    rw [sameF, sameF]
    cases ho : os[x]? with
    | none => rfl
    | some o =>
      cases hp2 : os'[y]? with
      | none => rfl
      | some p =>
        simp only
        rw [allF_same (l := o.kids) fun c hc d => same_more h os' f c (c :: px) (h.path_below ho (by simp [belowO, hc]) hp) (by simp; omega) d,
          allF_same (l := innerL o) fun c hc d => same_more h os' f c (c :: px) (h.path_below ho (by simp [belowO, hc]) hp) (by simp; omega) d]

/-- Whether two nodes, and all that is below them, are alike. -/
def SS (os os' : List OneM) (x y : Nat) : Bool := sameF os os' (os.length + 1) x y
theorem SS_some (h : Sim ns os) {os' : List OneM} {x y : Nat} {o p : OneM} (ho : os[x]? = some o) (hp : os'[y]? = some p) :
    SS os os' x y = (eqD o p && allF (SS os os') o.kids p.kids && allF (SS os os') (innerL o) (innerL p)) := by
  obtain ⟨px, hpx⟩ := h.ends x (List.getElem?_eq_some_iff.1 ho).1
  show sameF os os' (os.length + 1) x y = _
  rw [sameF, ho, hp]
  show (eqD o p && _ && _) = (eqD o p && _ && _)
  rw [allF_same (l := o.kids) fun c hc d => (same_more h os' os.length c (c :: px) (h.path_below ho (by simp [belowO, hc]) hpx) (by simp) d).symm,
    allF_same (l := innerL o) fun c hc d => (same_more h os' os.length c (c :: px) (h.path_below ho (by simp [belowO, hc]) hpx) (by simp) d).symm]
  rfl
end
/-- The same of any two numbers. -/
def SSI (os os' : List OneM) (x y : Int) : Bool := hasO os x && hasO os' y && SS os os' x.toNat y.toNat
end Go.Proofs.Ytlbkoafeedlfaaa

namespace Go.Proofs.Ytlbkoafeedlfaaa

section
variable {ns : List NodeM} {os : List OneM}
theorem Sim.up_below (h : Sim ns os) {y x : Nat} (hu : upO os y = some (x : Int)) : ∃ o, os[x]? = some o ∧ y ∈ belowO o := by
  unfold upO at hu
  cases hy : os[y]? with
  | none => rw [hy] at hu; cases hu
  | some q =>
    rw [hy] at hu
    simp only [Option.map_some, Option.some.injEq] at hu
    split at hu
    · rcases h.host y q hy with e | ⟨_, k, m, hk, rfl, hm, hi⟩
      · omega
      · obtain rfl : k = x := by omega
        refine ⟨m, hm, ?_⟩
        unfold belowO innerL
        rw [if_neg (by omega), hi]
        simp
    · rcases h.up y q hy with e | ⟨p, m, hp, hm, hin⟩
      · contradiction
      · obtain rfl : p = x := by omega
        exact ⟨m, hm, by unfold belowO; simp [hin]⟩
theorem TR_self (h : Sim ns os) {y : Nat} (hy : y < os.length) : y ∈ TR os y := by
  rw [TR_some h (List.getElem?_eq_getElem hy)]; simp
theorem TR_up (h : Sim ns os) {z x y : Nat} (hu : upO os z = some (x : Int)) (hy : y ∈ TR os z) : y ∈ TR os x := by
  obtain ⟨o, ho, hz⟩ := h.up_below hu
  rw [TR_some h ho]
  exact List.mem_cons_of_mem _ (List.mem_flatMap.2 ⟨z, hz, hy⟩)
def topB (os : List OneM) (i : Nat) : Bool := upO os i == some (-1)
theorem path_top (h : Sim ns os) {y : Nat} : ∀ {l : List Nat} {z : Nat}, PathOf (upO os) (z : Int) l → y ∈ TR os z → ∃ t, topB os t = true ∧ y ∈ TR os t
  | [], z, hp, _ => by
    have : ((z : Nat) : Int) = -1 := hp
    omega
  | i :: r, z, hp, hy => by
    obtain ⟨e, m, hm, hr⟩ := hp
    obtain rfl : z = i := by omega
    by_cases e1 : m = -1
    · subst e1
      exact ⟨z, by unfold topB; rw [hm]; rfl, hy⟩
    · cases r with
      | nil => exact absurd hr e1
      | cons i2 r2 =>
        have e2 : m = (i2 : Int) := hr.1
        subst e2
        exact path_top h hr (TR_up h hm hy)
theorem top_last {y t : Nat} : ∀ {l : List Nat} {k : Int}, PathOf (upO os) k l → t ∈ l → topB os t = true → l.getLast? = some t
  | [], _, _, ht, _ => by cases ht
  | i :: r, k, hp, ht, hb => by
    obtain ⟨_, m, hm, hr⟩ := hp
    by_cases e : t = i
    · subst e
      unfold topB at hb
      rw [hm] at hb
      have e1 : m = -1 := by simpa using hb
      subst e1
      cases r with
      | nil => rfl
      | cons i2 r2 => have := hr.1; omega
    · have ht' : t ∈ r := by simpa [e] using ht
      have := top_last (y := y) hr ht' hb
      cases r with
      | nil => cases ht'
      | cons i2 r2 => rw [List.getLast?_cons_cons]; exact this
def topsL (os : List OneM) : List Nat := (List.range os.length).filter (topB os)
theorem tops_nodup (h : Sim ns os) : ((topsL os).flatMap (TR os)).Nodup := by
  refine nodup_flat (List.nodup_range.filter _) (fun x _ => tree_nodup h _ x) (fun x hx x' hx' y hy hy' => ?_)
  obtain ⟨py, hpy, hin⟩ := tree_path h _ _ _ hy
  obtain ⟨py', hpy', hin'⟩ := tree_path h _ _ _ hy'
  have e0 := path_one hpy' hpy
  subst e0
  have b1 := top_last (y := y) hpy hin (List.mem_filter.1 hx).2
  have b2 := top_last (y := y) hpy hin' (List.mem_filter.1 hx').2
  rw [b1] at b2
  simpa using b2
theorem tops_perm (h : Sim ns os) : ((topsL os).flatMap (TR os)).Perm (List.range os.length) := by
  refine (List.perm_ext_iff_of_nodup (tops_nodup h) List.nodup_range).2 fun y => ?_
  constructor
  · intro hy
    obtain ⟨t, _, hyt⟩ := List.mem_flatMap.1 hy
    exact List.mem_range.2 (tree_in h _ _ _ hyt)
  · intro hy
    have hy' := List.mem_range.1 hy
    obtain ⟨l, hl⟩ := h.ends y hy'
    obtain ⟨t, ht, hyt⟩ := path_top h hl (TR_self h hy')
    refine List.mem_flatMap.2 ⟨t, List.mem_filter.2 ⟨?_, ht⟩, hyt⟩
    unfold topB upO at ht
    cases ho : os[t]? with
    | none => rw [ho] at ht; cases ht
    | some o => exact List.mem_range.2 (List.getElem?_eq_some_iff.1 ho).1
end
end Go.Proofs.Ytlbkoafeedlfaaa
