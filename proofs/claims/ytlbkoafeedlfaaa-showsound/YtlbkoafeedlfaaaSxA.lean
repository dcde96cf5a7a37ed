/-
  Package show's Same, walked, and Show of a bare node: trees, plain; pairs that are still to be held against each other.
-/
import Derived.Test.YtlbkoafeedlfaaaOps3
import Derived.Deep.LoopGhost
import Derived.Deep.QuietTactic
import Derived.BigQuiet
import Derived.Test.YtlbkoafeedlfaaaMake
import Derived.Deep.AppendLies
import Derived.Deep.RegionLaw
import Derived.Test.YtlbkoafeedlfaaaRf
import Derived.Lib.UnsafeStr
import Derived.Lib.Builder
import Derived.Laws.Externs
namespace Go.Proofs.Ytlbkoafeedlfaaa
open Go.RowKit

theorem below_drewN' {B : Nat} {a w : World} (h : Below B a w) (n : Nat) : Below B a (w.drewN n) := ⟨h.os, h.tape, h.output, h.size, h.block⟩

theorem box12 {w5 w6 : World} {v0 v1 v2 v3 v4 v5 v6 v7 v8 v9 v10 v11 : Value} {t : TypeId} (hb : Below (w5.alloc (.cells #[v0, v1, v2, v3, v4, v5, v6, v7, v8, v9, v10, v11] t)).heap.size (w5.alloc (.cells #[v0, v1, v2, v3, v4, v5, v6, v7, v8, v9, v10, v11] t)) w6) :
    w6.cell? ⟨w5.heap.size, 0, none⟩ = some v0 ∧ w6.cell? ⟨w5.heap.size, 1, none⟩ = some v1 ∧ w6.cell? ⟨w5.heap.size, 2, none⟩ = some v2 ∧ w6.cell? ⟨w5.heap.size, 3, none⟩ = some v3 ∧ w6.cell? ⟨w5.heap.size, 4, none⟩ = some v4 ∧ w6.cell? ⟨w5.heap.size, 5, none⟩ = some v5 ∧ w6.cell? ⟨w5.heap.size, 6, none⟩ = some v6 ∧ w6.cell? ⟨w5.heap.size, 7, none⟩ = some v7 ∧ w6.cell? ⟨w5.heap.size, 8, none⟩ = some v8 ∧
    w6.cell? ⟨w5.heap.size, 9, none⟩ = some v9 ∧ w6.cell? ⟨w5.heap.size, 10, none⟩ = some v10 ∧ w6.cell? ⟨w5.heap.size, 11, none⟩ = some v11 ∧ w5.heap.size < w6.heap.size := by
  have hs := hb.size
  have hc : ∀ j, w6.cell? ⟨w5.heap.size, j, none⟩ = (w5.alloc (.cells #[v0, v1, v2, v3, v4, v5, v6, v7, v8, v9, v10, v11] t)).cell? ⟨w5.heap.size, j, none⟩ := fun j => hb.cell (p := ⟨w5.heap.size, j, none⟩) (by simp)
  refine ⟨?_, ?_, ?_, ?_, ?_, ?_, ?_, ?_, ?_, ?_, ?_, ?_, by simp at hs; omega⟩ <;> (rw [hc]; simp)
end Go.Proofs.Ytlbkoafeedlfaaa

namespace Go.Proofs.Ytlbkoafeedlfaaa

def innerL (o : OneM) : List Nat := if o.inner = -1 then [] else [o.inner.toNat]
/-- What hangs on a node: its children, and a template's contents. -/
def belowO (o : OneM) : List Nat := o.kids ++ innerL o

section
variable {ns : List NodeM} {os : List OneM}

theorem Sim.inner_facts (h : Sim ns os) {x : Nat} {o : OneM} (ho : os[x]? = some o) {c : Nat} (hc : c ∈ innerL o) : o.inner = (c : Int) ∧ ∃ m, os[c]? = some m ∧ m.up = -1 ∧ m.host = (x : Int) := by
  unfold innerL at hc
  split at hc
  · cases hc
  · rename_i hne
    rcases h.inner x o ho with e | ⟨e, m, hm, hh⟩
    · exact absurd e hne
    · have hcx : c = x + 1 := by
        have := List.mem_singleton.1 hc
        omega
      subst hcx
      refine ⟨by omega, m, hm, ?_, hh⟩
      rcases h.host _ m hm with e2 | ⟨hk, _⟩
      · omega
      · exact h.alone _ m hm (.inr hk)

theorem Sim.below_up (h : Sim ns os) {x : Nat} {o : OneM} (ho : os[x]? = some o) {c : Nat} (hc : c ∈ belowO o) : ∃ m, os[c]? = some m ∧ upO os c = some (x : Int) := by
  unfold belowO at hc
  rcases List.mem_append.1 hc with hc | hc
  · obtain ⟨m, hm, hu⟩ := h.down x o c ho hc
    refine ⟨m, hm, ?_⟩
    unfold upO
    rw [hm, Option.map_some, hu, if_neg (by omega)]
  · obtain ⟨_, m, hm, hu, hh⟩ := h.inner_facts ho hc
    refine ⟨m, hm, ?_⟩
    unfold upO
    rw [hm, Option.map_some, if_pos hu, hh]

theorem Sim.below_nodup (h : Sim ns os) {x : Nat} {o : OneM} (ho : os[x]? = some o) : (belowO o).Nodup := by
  unfold belowO
  refine List.nodup_append.2 ⟨(h.kids x o ho).nodup, ?_, fun a ha b hb e => ?_⟩
  · unfold innerL; split
    · exact List.nodup_nil
    · simp
  · subst e
    obtain ⟨m, hm, hu⟩ := h.down x o a ho ha
    obtain ⟨_, m2, hm2, hu2, _⟩ := h.inner_facts ho hb
    rw [hm] at hm2; cases hm2; omega

theorem Sim.path_below (h : Sim ns os) {x : Nat} {o : OneM} (ho : os[x]? = some o) {c : Nat} (hc : c ∈ belowO o) {px : List Nat} (hp : PathOf (upO os) x px) : PathOf (upO os) c (c :: px) := by
  obtain ⟨m, hm, hu⟩ := h.below_up ho hc
  exact ⟨rfl, _, hu, hp⟩

theorem path_suffix {f : Nat → Option Int} {x : Nat} : ∀ {l : List Nat} {k : Int}, PathOf f k l → x ∈ l → ∃ pre t, l = pre ++ t ∧ PathOf f x t
  | [], _, _, hx => by cases hx
  | i :: r, k, h, hx => by
    by_cases e : i = x
    · subst e; exact ⟨[], i :: r, rfl, rfl, h.2⟩
    · obtain ⟨_, m, hm, hr⟩ := h
      obtain ⟨pre, t, rfl, ht⟩ := path_suffix hr ((List.mem_cons.1 hx).resolve_left (fun e2 => e e2.symm))
      exact ⟨i :: pre, t, rfl, ht⟩
theorem path_self {f : Nat → Option Int} {x : Nat} {l : List Nat} (h : PathOf f (x : Int) l) : x ∈ l := by
  cases l with
  | nil => have : (x : Int) = -1 := h; omega
  | cons i r => have := h.1; have e : i = x := by omega
                subst e; simp
theorem path_short {l : List Nat} {k : Int} (h : PathOf (upO os) k l) : l.length ≤ os.length := by
  have := List.Nodup.length_le_of_subset (path_nodup h) (l₂ := List.range os.length) (fun x hx => List.mem_range.2 (path_in h x hx))
  simpa using this

def tree (os : List OneM) : Nat → Nat → List Nat
  | 0, _ => []
  | f + 1, x => match os[x]? with
    | some o => x :: (belowO o).flatMap (tree os f)
    | none => []

theorem tree_path (h : Sim ns os) : ∀ (f x y : Nat), y ∈ tree os f x → ∃ py, PathOf (upO os) y py ∧ x ∈ py
  | 0, _, _, hy => by cases hy
  | f + 1, x, y, hy => by
    unfold tree at hy
    cases ho : os[x]? with
    | none => rw [ho] at hy; cases hy
    | some o =>
      rw [ho] at hy
      obtain ⟨px, hpx⟩ := h.ends x (List.getElem?_eq_some_iff.1 ho).1
      rcases List.mem_cons.1 hy with rfl | hy
      · exact ⟨px, hpx, path_self hpx⟩
      · obtain ⟨c, hc, hyc⟩ := List.mem_flatMap.1 hy
        obtain ⟨py, hpy, hin⟩ := tree_path h f c y hyc
        obtain ⟨pre, t, rfl, ht⟩ := path_suffix hpy hin
        have e := path_one ht (h.path_below ho hc hpx)
        subst e
        exact ⟨_, hpy, by simp [path_self hpx]⟩

theorem nodup_flat {g : Nat → List Nat} : ∀ {l : List Nat}, l.Nodup → (∀ x ∈ l, (g x).Nodup) → (∀ x ∈ l, ∀ x' ∈ l, ∀ y, y ∈ g x → y ∈ g x' → x = x') → (l.flatMap g).Nodup
  | [], _, _, _ => List.nodup_nil
  | a :: l, hn, h1, h2 => by
    rw [List.flatMap_cons]
    refine List.nodup_append.2 ⟨h1 a (by simp), nodup_flat (List.nodup_cons.1 hn).2 (fun x hx => h1 x (by simp [hx])) (fun x hx x' hx' => h2 x (by simp [hx]) x' (by simp [hx'])), fun y hy z hz e => ?_⟩
    subst e
    obtain ⟨c, hc, hyc⟩ := List.mem_flatMap.1 hz
    have := h2 a (by simp) c (by simp [hc]) y hy hyc
    subst this
    exact (List.nodup_cons.1 hn).1 hc

theorem tree_nodup (h : Sim ns os) : ∀ (f x : Nat), (tree os f x).Nodup
  | 0, _ => List.nodup_nil
  | f + 1, x => by
    unfold tree
    cases ho : os[x]? with
    | none => exact List.nodup_nil
    | some o =>
      obtain ⟨px, hpx⟩ := h.ends x (List.getElem?_eq_some_iff.1 ho).1
      refine List.nodup_cons.2 ⟨fun hin => ?_, nodup_flat (h.below_nodup ho) (fun c _ => tree_nodup h f c) (fun c hc c' hc' y hy hy' => ?_)⟩
      · obtain ⟨c, hc, hxc⟩ := List.mem_flatMap.1 hin
        obtain ⟨py, hpy, hcin⟩ := tree_path h f c x hxc
        obtain ⟨pre, t, e, ht⟩ := path_suffix hpy hcin
        have e1 := path_one ht (h.path_below ho hc hpx)
        have e2 := path_one hpy hpx
        have := congrArg List.length e
        rw [e1, e2, List.length_append, List.length_cons] at this
        omega
      · obtain ⟨py, hpy, hin⟩ := tree_path h f c y hy
        obtain ⟨py', hpy', hin'⟩ := tree_path h f c' y hy'
        have e0 := path_one hpy' hpy
        subst e0
        obtain ⟨pre, t, e, ht⟩ := path_suffix hpy hin
        obtain ⟨pre', t', e', ht'⟩ := path_suffix hpy hin'
        have e1 := path_one ht (h.path_below ho hc hpx)
        have e2 := path_one ht' (h.path_below ho hc' hpx)
        rw [e1] at e
        rw [e2] at e'
        have e3 := e.symm.trans e'
        have := List.append_inj_right' e3 (by simp)
        simpa using this

theorem tree_in (h : Sim ns os) (f x y : Nat) (hy : y ∈ tree os f x) : y < os.length := by
  obtain ⟨py, hpy, _⟩ := tree_path h f x y hy
  exact path_in hpy y (path_self hpy)
theorem tree_short (h : Sim ns os) (f x : Nat) : (tree os f x).length ≤ os.length := by
  have := List.Nodup.length_le_of_subset (tree_nodup h f x) (l₂ := List.range os.length) (fun y hy => List.mem_range.2 (tree_in h f x y hy))
  simpa using this

theorem flatMap_same {g g' : Nat → List Nat} : ∀ {l : List Nat}, (∀ c ∈ l, g c = g' c) → l.flatMap g = l.flatMap g'
  | [], _ => rfl
  | a :: l, h => by rw [List.flatMap_cons, List.flatMap_cons, h a (by simp), flatMap_same (fun c hc => h c (by simp [hc]))]

theorem tree_more (h : Sim ns os) : ∀ (f x : Nat) (px : List Nat), PathOf (upO os) x px → os.length + 1 ≤ f + px.length → tree os (f + 1) x = tree os f x
  | 0, x, px, hp, hl => by have := path_short hp; omega
  | f + 1, x, px, hp, hl => by
    rw [tree, tree]
    cases ho : os[x]? with
    | none => rfl
    | some o =>
      simp only
      rw [flatMap_same fun c hc => tree_more h f c (c :: px) (h.path_below ho hc hp) (by simp; omega)]

def TR (os : List OneM) (x : Nat) : List Nat := tree os (os.length + 1) x
theorem TR_some (h : Sim ns os) {x : Nat} {o : OneM} (ho : os[x]? = some o) : TR os x = x :: (belowO o).flatMap (TR os) := by
  obtain ⟨px, hpx⟩ := h.ends x (List.getElem?_eq_some_iff.1 ho).1
  show tree os (os.length + 1) x = _
  rw [tree, ho]
  show x :: _ = x :: _
  congr 1
  exact flatMap_same fun c hc => (tree_more h os.length c (c :: px) (h.path_below ho hc hpx) (by simp)).symm

def attrEq (a b : AttrM) : Bool := a.space == b.space && a.pre == b.pre && a.name == b.name && a.val == b.val
def attrsEq : List AttrM → List AttrM → Bool
  | [], [] => true
  | a :: l, b :: m => attrEq a b && attrsEq l m
  | _, _ => false
def eqD (o p : OneM) : Bool := o.kind == p.kind && o.space == p.space && o.name == p.name && o.data == p.data && o.system == p.system && attrsEq o.attrs p.attrs
def allF (g : Nat → Nat → Bool) : List Nat → List Nat → Bool
  | [], [] => true
  | a :: l, b :: m => g a b && allF g l m
  | _, _ => false
theorem allF_same {g g' : Nat → Nat → Bool} : ∀ {l m : List Nat}, (∀ c ∈ l, ∀ d, g c d = g' c d) → allF g l m = allF g' l m
  | [], [], _ => rfl
  | [], _ :: _, _ => rfl
  | _ :: _, [], _ => rfl
  | a :: l, b :: m, h => by rw [allF, allF, h a (by simp), allF_same (fun c hc => h c (by simp [hc]))]

def sameF (os os' : List OneM) : Nat → Nat → Nat → Bool
  | 0, _, _ => false
  | f + 1, x, y => match os[x]?, os'[y]? with
    | some o, some p => eqD o p && allF (sameF os os' f) o.kids p.kids && allF (sameF os os' f) (innerL o) (innerL p)
    | _, _ => false

theorem same_more (h : Sim ns os) (os' : List OneM) : ∀ (f x : Nat) (px : List Nat), PathOf (upO os) x px → os.length + 1 ≤ f + px.length → ∀ y, sameF os os' (f + 1) x y = sameF os os' f x y
  | 0, x, px, hp, hl, _ => by have := path_short hp; omega
  | f + 1, x, px, hp, hl, y => by
    rw [sameF, sameF]
    cases ho : os[x]? with
    | none => rfl
    | some o =>
      cases hp2 : os'[y]? with
      | none => rfl
      | some p =>
        simp only
        rw [allF_same (l := o.kids) fun c hc d => same_more h os' f c (c :: px) (h.path_below ho (by simp [belowO, hc]) hp) (by simp; omega) d,
          allF_same (l := innerL o) fun c hc d => same_more h os' f c (c :: px) (h.path_below ho (by simp [belowO, hc]) hp) (by simp; omega) d]

/-- Whether two nodes, and all that is below them, are alike. -/
def SS (os os' : List OneM) (x y : Nat) : Bool := sameF os os' (os.length + 1) x y
theorem SS_some (h : Sim ns os) {os' : List OneM} {x y : Nat} {o p : OneM} (ho : os[x]? = some o) (hp : os'[y]? = some p) :
    SS os os' x y = (eqD o p && allF (SS os os') o.kids p.kids && allF (SS os os') (innerL o) (innerL p)) := by
  obtain ⟨px, hpx⟩ := h.ends x (List.getElem?_eq_some_iff.1 ho).1
  show sameF os os' (os.length + 1) x y = _
  rw [sameF, ho, hp]
  show (eqD o p && _ && _) = (eqD o p && _ && _)
  rw [allF_same (l := o.kids) fun c hc d => (same_more h os' os.length c (c :: px) (h.path_below ho (by simp [belowO, hc]) hpx) (by simp) d).symm,
    allF_same (l := innerL o) fun c hc d => (same_more h os' os.length c (c :: px) (h.path_below ho (by simp [belowO, hc]) hpx) (by simp) d).symm]
  rfl
end
/-- The same of any two numbers. -/
def SSI (os os' : List OneM) (x y : Int) : Bool := hasO os x && hasO os' y && SS os os' x.toNat y.toNat
end Go.Proofs.Ytlbkoafeedlfaaa

namespace Go.Proofs.Ytlbkoafeedlfaaa
open Go.RowKit

theorem attrsEq_len : ∀ {l m : List AttrM}, attrsEq l m = true → l.length = m.length
  | [], [], _ => rfl
  | [], _ :: _, h => by cases h
  | _ :: _, [], h => by cases h
  | a :: l, b :: m, h => by
    rw [attrsEq, Bool.and_eq_true] at h
    simp [attrsEq_len h.2]
theorem attrsEq_no : ∀ {l m : List AttrM} {j : Nat} {x y : AttrM}, l[j]? = some x → m[j]? = some y → attrEq x y = false → attrsEq l m = false
  | [], _, _, _, _, h, _, _ => by simp at h
  | _ :: _, [], _, _, _, _, h, _ => by simp at h
  | a :: l, b :: m, 0, x, y, h1, h2, h3 => by
    simp at h1 h2; subst h1 h2; rw [attrsEq, h3]; rfl
  | a :: l, b :: m, j + 1, x, y, h1, h2, h3 => by
    rw [attrsEq, attrsEq_no (l := l) (m := m) (j := j) (by simpa using h1) (by simpa using h2) h3]; simp
theorem attrsEq_yes : ∀ {l m : List AttrM}, l.length = m.length → (∀ (j : Nat) x y, l[j]? = some x → m[j]? = some y → attrEq x y = true) → attrsEq l m = true
  | [], [], _, _ => rfl
  | [], _ :: _, h, _ => by simp at h
  | _ :: _, [], h, _ => by simp at h
  | a :: l, b :: m, h, h2 => by
    rw [attrsEq, h2 0 a b rfl rfl, attrsEq_yes (by simpa using h) (fun j x y hx hy => h2 (j + 1) x y (by simpa using hx) (by simpa using hy))]; rfl

theorem eqAttr (a b : AttrM) (w : World) : (Op.equalIn 10000 29 (.agg #[.int .i64 a.space, .string a.pre, .string a.name, .string a.val]) (.agg #[.int .i64 b.space, .string b.pre, .string b.name, .string b.val])).run Try.prog w = .ok (attrEq a b) w := by
  have u3 := Try.underlying3
  have a3 := Try.isAgg3
  have z3 := Try.sizeOf3
  have u9 := Try.underlying9
  have a9 := Try.isAgg9
  have z9 := Try.sizeOf9
  have hS : Try.prog.underlying 29 = some (.struct (Try.prog.fieldsOf 29)) := by kernel_rfl
  have hp : Try.prog.stoodInHeld 29 = false := by kernel_rfl
  rw [show (10000 : Nat) = 9999 + 1 from rfl, run_equalIn_agg w 9999 29 _ _ hS hp]
  simp only [Program.fieldsOf, Try.underlying29]
  go_simp
  unfold attrEq
  simp only [beq_toListBytes]
  by_cases h0 : a.space = b.space <;> by_cases h1 : a.pre.toList = b.pre.toList <;> by_cases h2 : a.name.toList = b.name.toList <;> by_cases h3 : a.val.toList = b.val.toList <;> simp [h0, h1, h2, h3]

theorem neqAttr (a b : AttrM) (w : World) : (binOp .neq 29 (.agg #[.int .i64 a.space, .string a.pre, .string a.name, .string a.val]) (.agg #[.int .i64 b.space, .string b.pre, .string b.name, .string b.val])).run Try.prog w = .ok (.bool (!attrEq a b)) w := by
  rw [run_neq_struct, eqAttr]; rfl
theorem guard29 : Try.prog.eqGuardType Try.prog.depth 29 = false := by kernel_rfl

set_option maxHeartbeats 4000000 in
set_option maxRecDepth 10000 in
theorem equal_any {w : World} (a b : Option Addr) (ca cb : Nat) (l m : List AttrM) (ha : AttrsIn w a l) (hb : AttrsIn w b m) (hl : l.length ≤ 1024) :
    Calls Try.prog 122 #[.slice a l.length ca, .slice b m.length cb] w fun e w' => e = .returned (.bool (attrsEq l m)) ∧ Below w.heap.size w w' := by
  have HA := hide ha
  have HB := hide hb
  clear ha hb
  by_cases hlen : l.length = m.length
  · have hzz : ((l.length : Int) != (m.length : Int)) = false := by simp [hlen]
    have hlz : (l.length : Int) ≤ 1024 := by omega
    have HL := hide hlen
    clear hlen hl
    go_enter Try.func122, Try.ntmps122
    go_wp2
    go_loopg [5, 13] l.length (fun k _ s wx => ∃ j : Nat, s = .int .i64 j ∧ j + k = l.length ∧ Below w.heap.size w wx ∧ ∀ (i : Nat) x y, i < j → l[i]? = some x → m[i]? = some y → attrEq x y = true)
    case atStart => exact ⟨0, rfl, by omega, Below.refl _ _, fun i x y h => by omega⟩
    case round =>
      obtain ⟨j, rfl, hjk, hb, hpre⟩ := hrel
      have HP := hide hpre
      clear hpre
      by_cases hj : j < l.length
      · obtain ⟨x, hx⟩ : ∃ x, l[j]? = some x := ⟨_, List.getElem?_eq_getElem hj⟩
        obtain ⟨y, hy⟩ : ∃ y, m[j]? = some y := ⟨_, List.getElem?_eq_getElem (by rw [← unhide HL]; exact hj)⟩
        have hjz : (j : Int) < (l.length : Int) := by omega
        have hjm : (j : Int) < (m.length : Int) := by rw [← unhide HL]; exact hjz
        obtain ⟨ba, oa, rfl, a0, a1, a2, a3⟩ := ((unhide HA).below hb).cells j _ hx
        obtain ⟨bb, ob, rfl, b0, b1, b2, b3⟩ := ((unhide HB).below hb).cells j _ hy
        have HBW := hide hb
        have HX := hide hx
        have HY := hide hy
        clear hx hb hy
        cases he : attrEq x y with
        | true =>
          have HE := hide he
          have hg := guard29
          have hq := fun W => neqAttr x y W
          rw [he] at hq
          clear he
          go_wp2
          go_quiet (fail)
          go_wp2
          go_roundg (gk - 1)
          case measure => omega
          case rel =>
            refine ⟨j + 1, by go_num, by omega, below_drewN' (unhide HBW) _, fun i x' y' hi hx' hy' => ?_⟩
            by_cases e : i = j
            · subst e; rw [unhide HX] at hx'; rw [unhide HY] at hy'; cases hx'; cases hy'; exact unhide HE
            · exact (unhide HP) i x' y' (by omega) hx' hy'
        | false =>
          have HE := hide he
          have hg := guard29
          have hq := fun W => neqAttr x y W
          rw [he] at hq
          clear he
          go_wp2
          go_quiet (fail)
          go_wp2
          go_ret
          refine ⟨?_, below_drewN' (unhide HBW) _⟩
          rw [attrsEq_no (unhide HX) (unhide HY) (unhide HE)]
          rfl
      · have hjz : ¬ (j : Int) < (l.length : Int) := by omega
        go_wp2
        go_ret
        refine ⟨?_, hb⟩
        rw [attrsEq_yes (unhide HL) (fun i x y hx hy => (unhide HP) i x y (by have := (List.getElem?_eq_some_iff.1 hx).1; omega) hx hy)]
        rfl
  · have hzz : ((l.length : Int) != (m.length : Int)) = true := by rw [bne_iff_ne]; omega
    have HL := hide hlen
    clear hlen hl
    go_enter Try.func122, Try.ntmps122
    go_wp2
    go_ret
    refine ⟨?_, Below.refl _ _⟩
    have : attrsEq l m = false := by
      cases h : attrsEq l m with
      | false => rfl
      | true => exact absurd (attrsEq_len h) (unhide HL)
    rw [this]; rfl

set_option maxHeartbeats 4000000 in
set_option maxRecDepth 10000 in
theorem alikeS_any {w : World} (a b : Option Addr) (ca cb : Nat) (l m : List AttrM) (ha : AttrsIn w a l) (hb : AttrsIn w b m) (hl : l.length ≤ 1024) (v0 v1 v6 v7 v8 v9 v10 v11 u0 u1 u6 u7 u8 u9 u10 u11 : Int) (v2 v4 v5 u2 u4 u5 : ByteArray) :
    Calls Try.prog 85 #[.agg #[.int .i64 v0, .int .i64 v1, .string v2, .slice a l.length ca, .string v4, .string v5, .int .i64 v6, .int .i64 v7, .int .i64 v8, .int .i64 v9, .int .i64 v10, .int .i64 v11],
      .agg #[.int .i64 u0, .int .i64 u1, .string u2, .slice b m.length cb, .string u4, .string u5, .int .i64 u6, .int .i64 u7, .int .i64 u8, .int .i64 u9, .int .i64 u10, .int .i64 u11]] w fun e w' => e = .returned (.bool (v0 == u0 && v1 == u1 && v2 == u2 && v4 == u4 && v5 == u5 && attrsEq l m)) ∧ Below w.heap.size w w' := by
  have HEQ : Hid (∀ W, Below w.heap.size w W → Calls Try.prog 122 #[.slice a l.length ca, .slice b m.length cb] W fun e w' => e = .returned (.bool (attrsEq l m)) ∧ Below W.heap.size W w') := hide (fun W hW => equal_any a b ca cb l m (ha.below hW) (hb.below hW) hl)
  clear ha hb hl
  rw [beq_toListBytes v2 u2, beq_toListBytes v4 u4, beq_toListBytes v5 u5]
  cases h0 : (v0 == u0) with
  | false =>
    go_enter Try.func85, Try.ntmps85
    go_wp2
    go_ret
    exact ⟨by simp, ((Below.refl _ _).alloc (Nat.le_refl _) _).alloc (by simp) _⟩
  | true =>
    cases h1 : (v1 == u1) with
    | false =>
      go_enter Try.func85, Try.ntmps85
      go_wp2
      go_ret
      exact ⟨by simp, ((Below.refl _ _).alloc (Nat.le_refl _) _).alloc (by simp) _⟩
    | true =>
      cases h2 : (v2.toList == u2.toList) with
      | false =>
        go_enter Try.func85, Try.ntmps85
        go_wp2
        go_ret
        exact ⟨by simp, ((Below.refl _ _).alloc (Nat.le_refl _) _).alloc (by simp) _⟩
      | true =>
        cases h4 : (v4.toList == u4.toList) with
        | false =>
          go_enter Try.func85, Try.ntmps85
          go_wp2
          go_ret
          exact ⟨by simp, ((Below.refl _ _).alloc (Nat.le_refl _) _).alloc (by simp) _⟩
        | true =>
          cases h5 : (v5.toList == u5.toList) with
          | false =>
            go_enter Try.func85, Try.ntmps85
            go_wp2
            go_ret
            exact ⟨by simp, ((Below.refl _ _).alloc (Nat.le_refl _) _).alloc (by simp) _⟩
          | true =>
            generalize attrsEq l m = q at HEQ
            have HB2 : Hid (∀ ob ob', Below w.heap.size w ((w.alloc ob).alloc ob')) := hide (fun ob ob' => ((Below.refl _ _).alloc (Nat.le_refl _) _).alloc (by simp) _)
            go_enter Try.func85, Try.ntmps85
            go_wp2_with (go_at_call 122; refine ((unhide HEQ) _ ((unhide HB2) _ _)).mono ?_; rintro e w3 ⟨rfl, hb3⟩; have HB3 := hide hb3; clear hb3)
            go_ret
            exact ⟨by simp, ((unhide HB2) _ _).trans ((unhide HB3).mono ((unhide HB2) _ _).size)⟩
end Go.Proofs.Ytlbkoafeedlfaaa

namespace Go.Proofs.Ytlbkoafeedlfaaa
open Go.RowKit

/-- A stack of type T at block b: n elements of type E, sz cells each. -/
structure StAt (w : World) (base b : Nat) (T E : TypeId) (sz : Nat) (v : Value) (n : Nat) (xs : List Value) : Prop where
  box : w.heap[b]? = some (.cells #[v] T (0, 0))
  row : w.ownsRow base E sz v n xs
  lo : base ≤ b
  ne : T ≠ E

def StS (w : World) (base b : Nat) (T E : TypeId) (sz n : Nat) (xs : List Value) (F : Nat → Prop) : Prop := ∃ v, StAt w base b T E sz v n xs ∧ ∀ k, F k ↔ k = b ∨ v.ownBlock = some k

def UpdSt (F : Nat → Prop) (w w' : World) (base b : Nat) (T E : TypeId) (sz n : Nat) (xs : List Value) : Prop := ∃ F', StS w' base b T E sz n xs F' ∧ Mod F w w' ∧ ∀ k, F' k → F k ∨ w.heap.size ≤ k

section
variable {w w' : World} {base b : Nat} {T E : TypeId} {sz n : Nat} {xs : List Value} {v : Value} {F G : Nat → Prop}

theorem StAt.far (h : StAt w base b T E sz v n xs) : v.ownBlock ≠ some b := by
  intro e
  obtain ⟨cur, hc⟩ := ownsRow_block h.row e
  have := h.box
  rw [hc] at this
  simp at this
  exact h.ne this.2.symm
theorem StAt.cell (h : StAt w base b T E sz v n xs) : w.cell? ⟨b, 0, none⟩ = some v := cell_of_one h.box
theorem StAt.free (h : StAt w base b T E sz v n xs) : w.frozen? ⟨b, 0, none⟩ = false := free_of_one h.box
theorem StAt.lt (h : StAt w base b T E sz v n xs) : b < w.heap.size := lt_of_block h.box
theorem StAt.mod (h : StAt w base b T E sz v n xs) (hm : Mod G w w') (hG : ∀ k, (k = b ∨ v.ownBlock = some k) → ¬ G k) : StAt w' base b T E sz v n xs := by
  refine ⟨by rw [hm.block b h.lt (hG b (.inl rfl))]; exact h.box, ?_, h.lo, h.ne⟩
  refine ⟨h.row.1, ?_⟩
  rcases h.row.2 with hn | ⟨g', cap', cur, rfl, hbb, hgg, rest⟩
  · exact .inl hn
  · exact .inr ⟨g', cap', cur, rfl, hbb, by rw [hm.block g' (lt_of_block hgg) (hG g' (.inr rfl))]; exact hgg, rest⟩
theorem StS.mod (h : StS w base b T E sz n xs F) (hm : Mod G w w') (hG : ∀ k, F k → ¬ G k) : StS w' base b T E sz n xs F := by
  obtain ⟨v, h, hF⟩ := h
  exact ⟨v, h.mod hm (fun k hk => hG k ((hF k).2 hk)), hF⟩
theorem StS.below (h : StS w base b T E sz n xs F) (hb : Below w.heap.size w w') : StS w' base b T E sz n xs F := h.mod (Mod.of_below (F := fun _ => False) hb) (fun _ _ e => e)
theorem StS.lt (h : StS w base b T E sz n xs F) {k : Nat} (hk : F k) : base ≤ k ∧ k < w.heap.size := by
  obtain ⟨v, h, hF⟩ := h
  rcases (hF k).1 hk with rfl | e
  · exact ⟨h.lo, h.lt⟩
  · exact h.row.lt k e
theorem StAt.cut (h : StAt w base b T E sz v n xs) (m : Nat) (hm : m ≤ n) : ∃ g cap, v = .slice g n cap ∧ w.ownsRow base E sz (.slice g m cap) m (xs.take (m * sz)) := by
  rcases h.row.2 with ⟨rfl, rfl⟩ | ⟨g, cap, cur, rfl, hbb, hgg, hc, hcm, hsz, ht⟩
  · obtain rfl : m = 0 := by omega
    exact ⟨none, 0, rfl, by simp, .inl ⟨rfl, rfl⟩⟩
  · refine ⟨some ⟨g, 0, none⟩, cap, rfl, ?_, .inr ⟨g, cap, cur, rfl, hbb, hgg, by omega, hcm, hsz, ?_⟩⟩
    · have := h.row.1
      rw [List.length_take, this]
      exact Nat.min_eq_left (Nat.mul_le_mul_right _ hm)
    · rw [← ht, List.take_take, Nat.min_eq_left (Nat.mul_le_mul_right _ hm)]
theorem StAt.close (h : StAt w base b T E sz v n xs) {w1 : World} {H g cap m : Nat} {ys : List Value} (hg : w.grownBy w1 v.ownBlock) (hown : w1.ownsRow base E sz (.slice (some ⟨g, 0, none⟩) m cap) m ys) (hat : v.ownBlock = some g ∨ g = H) (hH : w.heap.size ≤ H) (hF : ∀ k, F k ↔ k = b ∨ v.ownBlock = some k) :
    UpdSt F w (w1.setCell ⟨b, 0, none⟩ (.slice (some ⟨g, 0, none⟩) m cap)) base b T E sz m ys := by
  have hlt1 : b < w1.heap.size := Nat.lt_of_lt_of_le h.lt hg.size
  have hb1 : w1.heap[b]? = some (.cells #[v] T (0, 0)) := by rw [hg.block b h.lt h.far.symm]; exact h.box
  have hgb : g ≠ b := by
    rcases hat with e | e
    · intro e2; subst e2; exact h.far e
    · have := h.lt; omega
  refine ⟨fun k => k = b ∨ g = k, ⟨.slice (some ⟨g, 0, none⟩) m cap, ⟨?_, ownsRow_setCell_other hown (by simpa [Value.ownBlock] using hgb) _, h.lo, h.ne⟩, fun k => by simp [Value.ownBlock]⟩, ?_, ?_⟩
  · have := heap_setCell_same w1 b 0 #[v] T (.slice (some ⟨g, 0, none⟩) m cap) hb1
    simpa using this
  · exact (Mod.grown hg (fun k hk => (hF k).2 (.inr hk))).trans (Mod.setCell _ _ _ ((hF b).2 (.inl rfl)))
  · rintro k (rfl | rfl)
    · exact .inl ((hF k).2 (.inl rfl))
    · rcases hat with e | e
      · exact .inl ((hF _).2 (.inr e))
      · exact .inr (by omega)
end

theorem Try.info128 : (Try.prog.info? 128).map (fun i => (i.zero, i.size, i.bytes)) = some (some (.agg #[.int .i64 0, .int .i64 0]), 2, 16) := by kernel_rfl

theorem two_news (w : World) (t : TypeId) (x y : Value) : ∀ j u, [x, y][j]? = some u → (w.alloc (.cells #[x, y] t)).cell? ((⟨w.heap.size, 0, none⟩ : Addr).add j) = some u :=
  World.news_of_block (heap_alloc_new w (.cells #[x, y] t))

set_option maxHeartbeats 1000000 in
theorem push_pair {w : World} {base b n : Nat} {xs : List Value} {F : Nat → Prop} (h : StS w base b 125 128 2 n xs F) (x y : Int) (hn : n ≤ 100000) :
    Calls Try.prog 82 #[.pointer (some ⟨b, 0, none⟩), .agg #[.int .i64 x, .int .i64 y]] w fun e w' => e = .returned (.tuple #[]) ∧ UpdSt F w w' base b 125 128 2 (n + 1) (xs ++ [.int .i64 x, .int .i64 y]) := by
  obtain ⟨v, h, hF⟩ := h
  obtain ⟨ga, cap, rfl, _⟩ := h.cut n (Nat.le_refl _)
  obtain ⟨i0, hi0, hz0, hz1, hz2⟩ := info_parts Try.info128
  have hc := h.cell
  have hfz := h.free
  have hlt := h.lt
  have hfar := h.far
  have HH := hide h
  have HFF := hide hF
  have HLO := hide h.lo
  have HR := hide h.row
  clear h hF
  go_enter Try.func82, Try.ntmps82
  go_wp2_with fail
  go_region_law ((refine step_append_lies _ (by rfl) _ _ _ (by rfl) base 128 i0 _ 2 16 Try.underlying123 hi0 hz0 hz1 hz2 rfl (by omega) (.slice ga n cap) n xs (by rfl) (by exact (((unhide HR).alloc _).drew).alloc _) ⟨w.heap.size + 1, 0, none⟩ 1 1 [.int .i64 x, .int .i64 y] (by rfl) (by rfl) (by have := two_news (w.alloc (.cells #[.int .i64 x, .int .i64 y] 128)) 128 (.int .i64 x) (.int .i64 y); rw [World.size_alloc] at this; exact this) (by simp [Value.oneCell']) (by omega) (by unfold maxLen; omega) (by omega) (by exact Nat.le_trans (unhide HLO) (by simp; omega)) (w.heap.size + 2) (by simp) ?_; intro g' cap' w1 hown1 hgrow hat hl1; have hc1 : w1.cell? ⟨b, 0, none⟩ = some (.slice ga n cap) := ((hgrow.cell_far ⟨b, 0, none⟩ (by simp; omega) (by intro e; first | exact hfar e | exact hfar e.symm)).trans (((Below.refl w.heap.size w).alloc (Nat.le_refl _) _).alloc (by simp) _ |>.drew.cell hlt |>.trans hc)); have hF1 : w1.frozen? ⟨b, 0, none⟩ = false := ((hgrow.frozen_far ⟨b, 0, none⟩ (by simp; omega) (by intro e; first | exact hfar e | exact hfar e.symm)).trans (((Below.refl w.heap.size w).alloc (Nat.le_refl _) _).alloc (by simp) _ |>.drew.frozen hlt |>.trans hfz))))
  all_goals
    have hB : Below w.heap.size w (((w.alloc (.cells #[.int .i64 x, .int .i64 y] 128)).alloc (.cells #[.int .i64 x, .int .i64 y] 128)).drew) := (((Below.refl w.heap.size w).alloc (Nat.le_refl _) _).alloc (by simp) _).drew
    have hh := (unhide HH).mod (Mod.of_below (F := fun _ => False) hB) (fun _ _ e => e)
    have R := hh.close (H := w.heap.size + 2) hgrow hown1 hat (by simp) (unhide HFF)
    obtain ⟨F', h1, h2, h3⟩ := R
    have R2 : UpdSt F w (w1.setCell ⟨b, 0, none⟩ (.slice (some ⟨g', 0, none⟩) (n + 1) cap')) base b 125 128 2 (n + 1) (xs ++ [.int .i64 x, .int .i64 y]) := ⟨F', h1, (Mod.of_below hB).trans h2, fun k hk => (h3 k hk).imp id (fun h => Nat.le_trans hB.size h)⟩
    go_end0
    exact ⟨rfl, R2⟩

theorem empty_pair {w : World} {base b n : Nat} {xs : List Value} {F : Nat → Prop} (h : StS w base b 125 128 2 n xs F) :
    Calls Try.prog 83 #[.pointer (some ⟨b, 0, none⟩)] w fun e w' => e = .returned (.bool (decide (n = 0))) ∧ w = w' := by
  obtain ⟨v, h, hF⟩ := h
  obtain ⟨ga, cap, rfl, _⟩ := h.cut n (Nat.le_refl _)
  have hc := h.cell
  clear h hF
  go_enter Try.func83, Try.ntmps83
  go_wp2
  go_ret
  have e : (((n : Nat) : Int) == 0) = decide (n = 0) := by rw [Bool.eq_iff_iff]; simp
  exact ⟨by simp [e], rfl⟩

theorem UpdSt.then {F : Nat → Prop} {w w1 w2 : World} {base b : Nat} {T E : TypeId} {sz n : Nat} {xs : List Value} (h : UpdSt F w w1 base b T E sz n xs) (hb : Below w1.heap.size w1 w2) : UpdSt F w w2 base b T E sz n xs := by
  obtain ⟨F', h1, h2, h3⟩ := h
  exact ⟨F', h1.below hb, h2.trans (Mod.of_below hb), h3⟩

/-- A stack whose box was turned to a shorter slice of the same row. -/
theorem StAt.short {w w1 : World} {base b : Nat} {T E : TypeId} {sz n : Nat} {xs : List Value} {g : Option Addr} {cap : Nat} {F : Nat → Prop} (h : StAt w base b T E sz (.slice g n cap) n xs) (hF : ∀ k, F k ↔ k = b ∨ (Value.slice g n cap).ownBlock = some k) (m : Nat) (hm : m ≤ n) (hB : Below w.heap.size w w1) :
    UpdSt F w (w1.setCell ⟨b, 0, none⟩ (.slice g m cap)) base b T E sz m (xs.take (m * sz)) := by
  have h1 := h.mod (Mod.of_below (F := fun _ => False) hB) (fun _ _ e => e)
  obtain ⟨g', cap', e, hr⟩ := h1.cut m hm
  cases e
  have ho : (Value.slice g m cap).ownBlock = (Value.slice g n cap).ownBlock := by cases g <;> rfl
  refine ⟨F, ⟨.slice g m cap, ⟨?_, ownsRow_setCell_other hr (by rw [ho]; exact h.far) _, h.lo, h.ne⟩, fun k => by rw [ho]; exact hF k⟩, (Mod.of_below hB).trans (Mod.setCell _ _ _ ((hF b).2 (.inl rfl))), fun k hk => .inl hk⟩
  have := heap_setCell_same w1 b 0 #[.slice g n cap] T (.slice g m cap) h1.box
  simpa using this

theorem StAt.at {w : World} {base b : Nat} {T E : TypeId} {sz n : Nat} {xs : List Value} {v : Value} (h : StAt w base b T E sz v n xs) (hn : 0 < n) : ∃ g cap, v = .slice (some ⟨g, 0, none⟩) n cap ∧ n ≤ cap ∧ g < w.heap.size ∧ ∀ j, j < n * sz → w.cell? ⟨g, j, none⟩ = xs[j]? := by
  rcases h.row.2 with ⟨rfl, rfl⟩ | ⟨g, cap, cur, rfl, hbb, hgg, hc, _⟩
  · omega
  · exact ⟨g, cap, rfl, hc, lt_of_block hgg, fun j hj => h.row.cellAt j hj⟩

set_option maxHeartbeats 1000000 in
theorem pop_pair {w : World} {base b n : Nat} {xs : List Value} {F : Nat → Prop} {x y : Int} (h : StS w base b 125 128 2 (n + 1) (xs ++ [.int .i64 x, .int .i64 y]) F) (hn : n ≤ 100000) :
    Calls Try.prog 84 #[.pointer (some ⟨b, 0, none⟩)] w fun e w' => e = .returned (.agg #[.int .i64 x, .int .i64 y]) ∧ UpdSt F w w' base b 125 128 2 n xs := by
  obtain ⟨v, h, hF⟩ := h
  obtain ⟨g, cap, rfl, hcap, hg, hj⟩ := h.at (by omega)
  have hlx : xs.length = n * 2 := by have := h.row.1; simp at this; omega
  have c0 : w.cell? ⟨g, n * 2, none⟩ = some (.int .i64 x) := by rw [hj _ (by omega), List.getElem?_append_right (by omega), hlx]; simp
  have c1 : w.cell? ⟨g, n * 2 + 1, none⟩ = some (.int .i64 y) := by rw [hj _ (by omega), List.getElem?_append_right (by omega), hlx]; simp
  have hc := h.cell
  have hfz := h.free
  have hlt := h.lt
  have HX := hide hlx
  have HH := hide h
  have HFF := hide hF
  clear h hF hj hlx
  go_enter Try.func84, Try.ntmps84
  go_wp2
  refine bodyPost_ret (v := .agg #[.int .i64 x, .int .i64 y]) (by simp [results, Try.results84, go_sem]) rfl ⟨rfl, ?_⟩
  have R := (unhide HH).short (unhide HFF) n (by omega) (Below.refl _ w)
  rw [List.take_left' (unhide HX)] at R
  exact (R.then ((Below.refl _ _).alloc (Nat.le_refl _) _)).then ((Below.refl _ _).alloc (Nat.le_refl _) _)
end Go.Proofs.Ytlbkoafeedlfaaa

namespace Go.Proofs.Ytlbkoafeedlfaaa
open Go.RowKit

/-- Two nodes that are still to be held against each other, with their later neighbours. -/
structure Ent where
  x : Int
  y : Int
  l : List Nat
  m : List Nat
def cellsE (E : List Ent) : List Value := E.flatMap fun e => [.int .i64 e.x, .int .i64 e.y]
structure OkE (ns ns' : List NodeM) (e : Ent) : Prop where
  left : PathOf (nextF ns) e.x e.l
  right : PathOf (nextF ns') e.y e.m
  some_ : e.x ≠ -1 ∨ e.y ≠ -1
def allE (os os' : List OneM) (E : List Ent) : Bool := E.all fun e => allF (SS os os') e.l e.m
def msE (os : List OneM) (E : List Ent) : Nat := (E.flatMap fun e => e.l.flatMap (TR os)).length
def pushE (e : Ent) : List Ent := if e.x ≠ -1 ∨ e.y ≠ -1 then [e] else []

theorem path_neg {f : Nat → Option Int} {l : List Nat} (h : PathOf f (-1) l) : l = [] := by
  cases l with
  | nil => rfl
  | cons i r => have := h.1; omega
theorem pushE_all {ns ns' : List NodeM} {os os' : List OneM} {e : Ent} (h1 : PathOf (nextF ns) e.x e.l) (h2 : PathOf (nextF ns') e.y e.m) (E : List Ent) : allE os os' (E ++ pushE e) = (allE os os' E && allF (SS os os') e.l e.m) := by
  unfold allE pushE
  split
  · simp
  · rename_i h
    have hx : e.x = -1 := by omega
    have hy : e.y = -1 := by omega
    rw [hx] at h1
    rw [hy] at h2
    rw [path_neg h1, path_neg h2]
    simp [allF]
theorem pushE_ms {ns : List NodeM} {os : List OneM} {e : Ent} (h1 : PathOf (nextF ns) e.x e.l) (E : List Ent) : msE os (E ++ pushE e) = msE os E + (e.l.flatMap (TR os)).length := by
  unfold msE pushE
  split
  · simp
  · rename_i h
    have hx : e.x = -1 := by omega
    rw [hx] at h1
    rw [path_neg h1]
    simp
theorem pushE_len (e : Ent) (E : List Ent) : (E ++ pushE e).length ≤ E.length + 1 := by
  unfold pushE; split <;> simp
theorem pushE_ok {ns ns' : List NodeM} {e : Ent} (h1 : PathOf (nextF ns) e.x e.l) (h2 : PathOf (nextF ns') e.y e.m) {E : List Ent} (h : ∀ q ∈ E, OkE ns ns' q) : ∀ q ∈ E ++ pushE e, OkE ns ns' q := by
  intro q hq
  rcases List.mem_append.1 hq with hq | hq
  · exact h q hq
  · unfold pushE at hq
    split at hq
    · rename_i hs
      rw [List.mem_singleton] at hq; subst hq
      exact ⟨h1, h2, hs⟩
    · cases hq

theorem next_some {ns : List NodeM} {i : Nat} {m : Int} (h : nextF ns i = some m) : ∃ n, ns[i]? = some n ∧ n.next = m := by
  unfold nextF at h
  cases hn : ns[i]? with
  | none => rw [hn] at h; cases h
  | some n => rw [hn] at h; exact ⟨n, rfl, by simpa using h⟩

section
variable {w W : World} {base bA : Nat} {ns : List NodeM} {F : Nat → Prop}
theorem nodeA (h : ArS w base bA ns F) (hW : Below w.heap.size w W) {i : Nat} {n : NodeM} (hi : ns[i]? = some n) :
    Calls Try.prog 18 #[.pointer (some ⟨bA, 0, none⟩), .int .i64 i] W fun e w' => ∃ a c, e = .returned (.tuple #[.agg #[.int .i64 n.kind, .int .i64 n.space, .string n.name, .slice a n.attrs.length c, .string n.data, .string n.system, .int .i64 n.parent, .int .i64 n.first, .int .i64 n.last, .int .i64 n.prev, .int .i64 n.next, .int .i64 n.inner], .int .i64 0]) ∧ AttrsIn w' a n.attrs ∧ Below W.heap.size W w' := by
  refine (node_in (h.below hW) i n hi).mono fun e w' ⟨ao, cp, h1, h2, h3, _⟩ => ?_
  obtain ⟨a2, c2, e2, hA⟩ := ownsRow_attrs h2
  simp only [Value.slice.injEq] at e2
  obtain ⟨rfl, _, _⟩ := e2
  exact ⟨ao, cp, h1, hA, h3⟩
end

/-- What a put leaves. -/
def PutSt (F : Nat → Prop) (w w' : World) (base b : Nat) (E : List Ent) : Prop :=
  ∃ F', StS w' base b 125 128 2 E.length (cellsE E) F' ∧ (∀ k, k < w.heap.size → ¬ F k → w'.heap[k]? = w.heap[k]?) ∧ (∀ k, F' k → F k ∨ w.heap.size ≤ k) ∧ Below base w w'

set_option maxHeartbeats 1000000 in
theorem put_any {w : World} {base b : Nat} {E : List Ent} {F : Nat → Prop} (h : StS w base b 125 128 2 E.length (cellsE E) F) (hbase : base ≤ w.heap.size) (hn : E.length ≤ 100000) (e : Ent) :
    Calls Try.prog 81 #[.int .i64 e.x, .int .i64 e.y, .pointer (some ⟨b, 0, none⟩)] w fun v w' => v = .returned (.tuple #[]) ∧ PutSt F w w' base b (E ++ pushE e) := by
  by_cases hp : e.x ≠ -1 ∨ e.y ≠ -1
  · have hE : cellsE (E ++ pushE e) = cellsE E ++ [.int .i64 e.x, .int .i64 e.y] := by unfold pushE; rw [if_pos hp]; simp [cellsE]
    have hL : (E ++ pushE e).length = E.length + 1 := by unfold pushE; rw [if_pos hp]; simp
    have HP := hide (fun ob => push_pair (h.below (((Below.refl _ w).alloc (Nat.le_refl _) ob))) e.x e.y hn)
    have HQ := hide (push_pair h e.x e.y hn)
    have HFIN : Hid (∀ w', UpdSt F w w' base b 125 128 2 (E.length + 1) (cellsE E ++ [.int .i64 e.x, .int .i64 e.y]) → PutSt F w w' base b (E ++ pushE e)) := hide (fun w' ⟨F', h1, h2, h3⟩ => ⟨F', by rw [hL, hE]; exact h1, h2.block, h3, h2.below hbase (fun k hk => (h.lt hk).1)⟩)
    clear h hn hE hL
    by_cases hx : e.x = -1
    · have bx : (e.x != -1) = false := by simp [hx]
      have by' : (e.y != -1) = true := by rw [bne_iff_ne]; exact hp.resolve_left (fun h => h hx)
      clear hp hx
      go_enter Try.func81, Try.ntmps81
      go_wp2_with (go_at_call 82; refine (unhide HQ).mono ?_; rintro v w1 ⟨rfl, hu⟩; have HU := hide hu; clear hu)
      go_end0
      exact ⟨rfl, (unhide HFIN) _ (unhide HU)⟩
    · have bx : (e.x != -1) = true := by rw [bne_iff_ne]; exact hx
      clear hp hx
      go_enter Try.func81, Try.ntmps81
      go_wp2_with (go_at_call 82; refine (unhide HQ).mono ?_; rintro v w1 ⟨rfl, hu⟩; have HU := hide hu; clear hu)
      go_end0
      exact ⟨rfl, (unhide HFIN) _ (unhide HU)⟩
  · have hE : E ++ pushE e = E := by unfold pushE; rw [if_neg hp]; simp
    have hx : e.x = -1 := by omega
    have hy : e.y = -1 := by omega
    have bx : (e.x != -1) = false := by simp [hx]
    have by' : (e.y != -1) = false := by simp [hy]
    rw [hE]
    have HH := hide h
    clear h hp hx hy hE
    go_enter Try.func81, Try.ntmps81
    go_wp2
    go_end0
    exact ⟨rfl, F, unhide HH, fun _ _ _ => rfl, fun k hk => .inl hk, Below.refl _ _⟩
end Go.Proofs.Ytlbkoafeedlfaaa

namespace Go.Proofs.Ytlbkoafeedlfaaa
open Go.RowKit

def eqN (n m : NodeM) : Bool := n.kind == m.kind && n.space == m.space && n.name == m.name && n.data == m.data && n.system == m.system && attrsEq n.attrs m.attrs
theorem eqN_of {n m : NodeM} {o p : OneM} (h1 : Same n o) (h2 : Same m p) : eqN n m = eqD o p := by
  unfold eqN eqD
  rw [h1.kind, h1.space, h1.name, h1.data, h1.system, h1.attrs, h2.kind, h2.space, h2.name, h2.data, h2.system, h2.attrs]

section
variable {ns ns' : List NodeM} {os os' : List OneM}
theorem first_path (h : Sim ns os) {i : Nat} {n : NodeM} {o : OneM} (hn : ns[i]? = some n) (ho : os[i]? = some o) : PathOf (nextF ns) n.first o.kids := (h.kids i o ho).path hn
theorem inner_path (h : Sim ns os) {i : Nat} {n : NodeM} {o : OneM} (hn : ns[i]? = some n) (ho : os[i]? = some o) : PathOf (nextF ns) n.inner (innerL o) := by
  have hin := (h.same i n o hn ho).inner
  cases hl : innerL o with
  | nil =>
    unfold innerL at hl
    split at hl
    · rename_i e; rw [hin, e]; rfl
    · cases hl
  | cons c r =>
    have hc : c ∈ innerL o := by rw [hl]; simp
    have hr : r = [] := by
      unfold innerL at hl
      split at hl
      · cases hl
      · cases hl; rfl
    subst hr
    obtain ⟨e, m, hm, hu, _⟩ := h.inner_facts ho hc
    obtain ⟨nc, hnc, smc⟩ := h.get hm
    have := (h.loose c nc hnc (by rw [smc.up]; exact hu)).2
    refine ⟨by rw [hin]; exact e, -1, ?_, rfl⟩
    unfold nextF
    rw [hnc]; simp [this]
theorem TR_len (h : Sim ns os) {i : Nat} {o : OneM} (ho : os[i]? = some o) : (TR os i).length = 1 + (o.kids.flatMap (TR os)).length + ((innerL o).flatMap (TR os)).length := by
  rw [TR_some h ho]
  unfold belowO
  rw [List.flatMap_append]
  simp
  omega

/-- What the walk keeps from round to round. -/
def Rel (ns ns' : List NodeM) (os os' : List OneM) (x y : Int) (g : Nat) (s : Value) (E : List Ent) : Prop :=
  (s = .bool true ∧ (∃ l m, E = [⟨x, y, l, m⟩]) ∧ g = os.length + 1) ∨
  (s = .bool false ∧ (∀ e ∈ E, OkE ns ns' e) ∧ SSI os os' x y = allE os os' E ∧ E.length + 2 * msE os E ≤ 1 + 2 * os.length ∧ g = msE os E)

theorem Rel.short {x y : Int} {g : Nat} {s : Value} {E : List Ent} (h : Rel ns ns' os os' x y g s E) : E.length ≤ 1 + 2 * os.length := by
  rcases h with ⟨_, ⟨l, m, rfl⟩, _⟩ | ⟨_, _, _, h, _⟩
  · simp
  · omega

theorem allE_last (E : List Ent) (e : Ent) : allE os os' (E ++ [e]) = (allE os os' E && allF (SS os os') e.l e.m) := by unfold allE; simp

theorem hasM_eq {k : Int} : hasM ns k = true ↔ ∃ i : Nat, k = i ∧ i < ns.length := by
  unfold hasM
  rw [decide_eq_true_eq]
  exact ⟨fun h => ⟨k.toNat, by omega, by omega⟩, fun ⟨i, h1, h2⟩ => by omega⟩

/-- A pair of which one is none, or that are not alike. -/
theorem Rel.bad (sA : Sim ns os) (sB : Sim ns' os') {x y : Int} {g : Nat} {s : Value} {E : List Ent} {e : Ent} (h : Rel ns ns' os os' x y g s (E ++ [e]))
    (hb : hasM ns e.x = false ∨ hasM ns' e.y = false ∨ ∃ (i j : Nat) (n m : NodeM), e.x = i ∧ ns[i]? = some n ∧ e.y = j ∧ ns'[j]? = some m ∧ eqN n m = false) : SSI os os' x y = false := by
  rcases h with ⟨_, ⟨l, m, he⟩, _⟩ | ⟨_, hok, hs, _, _⟩
  · have hE : E = [] ∧ e = ⟨x, y, l, m⟩ := by
      cases E with
      | nil => exact ⟨rfl, by simpa using he⟩
      | cons a r => simp at he
    obtain ⟨_, rfl⟩ := hE
    unfold SSI
    rcases hb with hb | hb | ⟨i, j, n, m', hx, hn, hy, hm, hq⟩
    · rw [← sA.hasM]; simp only at hb; rw [hb]; rfl
    · rw [← sB.hasM y]; simp only at hb; rw [hb]; simp
    · simp only at hx hy
      subst hx hy
      obtain ⟨o, ho, sm⟩ := sA.getO hn
      obtain ⟨p, hp, sm'⟩ := sB.getO hm
      rw [Int.toNat_natCast, Int.toNat_natCast, SS_some sA ho hp, ← eqN_of sm sm', hq]
      simp
  · rw [hs, allE_last]
    have ok := hok e (by simp)
    suffices h : allF (SS os os') e.l e.m = false by rw [h]; simp
    rcases hb with hb | hb | ⟨i, j, n, m', hx, hn, hy, hm, hq⟩
    · cases hl : e.l with
      | nil =>
        cases hm : e.m with
        | nil =>
          have h1 := ok.left; rw [hl] at h1
          have h2 := ok.right; rw [hm] at h2
          exact absurd ok.some_ (by rintro (h | h); exact h h1; exact h h2)
        | cons b r => rfl
      | cons a r =>
        have h1 := ok.left; rw [hl] at h1
        obtain ⟨e1, m, hm, _⟩ := h1
        obtain ⟨n, hn, _⟩ := next_some hm
        have : hasM ns e.x = true := hasM_eq.2 ⟨a, e1, (List.getElem?_eq_some_iff.1 hn).1⟩
        rw [hb] at this; cases this
    · cases hm : e.m with
      | nil =>
        cases hl : e.l with
        | nil =>
          have h1 := ok.left; rw [hl] at h1
          have h2 := ok.right; rw [hm] at h2
          exact absurd ok.some_ (by rintro (h | h); exact h h1; exact h h2)
        | cons b r => rfl
      | cons a r =>
        have h1 := ok.right; rw [hm] at h1
        obtain ⟨e1, m, hm, _⟩ := h1
        obtain ⟨n, hn, _⟩ := next_some hm
        have : hasM ns' e.y = true := hasM_eq.2 ⟨a, e1, (List.getElem?_eq_some_iff.1 hn).1⟩
        rw [hb] at this; cases this
    · cases hl : e.l with
      | nil => have h1 := ok.left; rw [hl] at h1; have : e.x = -1 := h1; omega
      | cons a r =>
        cases hmm : e.m with
        | nil => rfl
        | cons b r' =>
          have h1 := ok.left; rw [hl] at h1
          have h2 := ok.right; rw [hmm] at h2
          have ea : a = i := by have := h1.1; omega
          have eb : b = j := by have := h2.1; omega
          subst ea eb
          obtain ⟨o, ho, sm⟩ := sA.getO hn
          obtain ⟨p, hp, sm'⟩ := sB.getO hm
          rw [allF, SS_some sA ho hp, ← eqN_of sm sm', hq]
          simp

/-- The first pair, alike: their children and contents are next. -/
theorem Rel.top (sA : Sim ns os) (sB : Sim ns' os') {x y : Int} {i j : Nat} {n m : NodeM} {o p : OneM} (hx : x = i) (hy : y = j) (hn : ns[i]? = some n) (hm : ns'[j]? = some m) (ho : os[i]? = some o) (hp : os'[j]? = some p) (hq : eqN n m = true) :
    ∃ g, g < os.length + 1 ∧ Rel ns ns' os os' x y g (.bool false) (([] ++ pushE ⟨n.first, m.first, o.kids, p.kids⟩) ++ pushE ⟨n.inner, m.inner, innerL o, innerL p⟩) := by
  have f1 := first_path sA hn ho
  have f2 := first_path sB hm hp
  have i1 := inner_path sA hn ho
  have i2 := inner_path sB hm hp
  have hlen := TR_len sA ho
  have hshort := tree_short sA (os.length + 1) i
  have hms : msE os (([] ++ pushE ⟨n.first, m.first, o.kids, p.kids⟩) ++ pushE ⟨n.inner, m.inner, innerL o, innerL p⟩) = (o.kids.flatMap (TR os)).length + ((innerL o).flatMap (TR os)).length := by
    rw [pushE_ms (ns := ns) i1, pushE_ms (ns := ns) f1]
    simp [msE]
  have hT : (TR os i).length ≤ os.length := hshort
  have l1 := pushE_len ⟨n.first, m.first, o.kids, p.kids⟩ []
  have l2 := pushE_len ⟨n.inner, m.inner, innerL o, innerL p⟩ ([] ++ pushE ⟨n.first, m.first, o.kids, p.kids⟩)
  simp only [List.length_nil] at l1
  refine ⟨_, ?_, .inr ⟨rfl, pushE_ok i1 i2 (pushE_ok f1 f2 (fun q hq => by cases hq)), ?_, ?_, rfl⟩⟩
  · omega
  · rw [pushE_all i1 i2, pushE_all f1 f2]
    unfold SSI
    subst hx hy
    have h1 : hasO os (i : Int) = true := hasO_of ho
    have h2 : hasO os' (j : Int) = true := hasO_of hp
    rw [h1, h2, Int.toNat_natCast, Int.toNat_natCast, SS_some sA ho hp, ← eqN_of (sA.same i n o hn ho) (sB.same j m p hm hp), hq]
    simp [allE]
  · omega

/-- A later pair, alike: their next neighbours, children and contents are next. -/
theorem Rel.step (sA : Sim ns os) (sB : Sim ns' os') {x y : Int} {g : Nat} {E : List Ent} {e : Ent} (h : Rel ns ns' os os' x y g (.bool false) (E ++ [e])) {i j : Nat} {n m : NodeM} {o p : OneM} (hx : e.x = i) (hy : e.y = j) (hn : ns[i]? = some n) (hm : ns'[j]? = some m) (ho : os[i]? = some o) (hp : os'[j]? = some p) (hq : eqN n m = true) :
    ∃ l' m', Rel ns ns' os os' x y (g - 1) (.bool false) (((E ++ pushE ⟨n.next, m.next, l', m'⟩) ++ pushE ⟨n.first, m.first, o.kids, p.kids⟩) ++ pushE ⟨n.inner, m.inner, innerL o, innerL p⟩) ∧ g - 1 < g := by
  rcases h with ⟨h, _⟩ | ⟨_, hok, hs, hb, hg⟩
  · cases h
  have ok := hok e (by simp)
  have f1 := first_path sA hn ho
  have f2 := first_path sB hm hp
  have i1 := inner_path sA hn ho
  have i2 := inner_path sB hm hp
  have hlen := TR_len sA ho
  cases hl : e.l with
  | nil => have h1 := ok.left; rw [hl] at h1; have : e.x = -1 := h1; omega
  | cons a r =>
    cases hmm : e.m with
    | nil => have h1 := ok.right; rw [hmm] at h1; have : e.y = -1 := h1; omega
    | cons b r' =>
      have h1 := ok.left; rw [hl] at h1
      have h2 := ok.right; rw [hmm] at h2
      have ea : a = i := by have := h1.1; omega
      have eb : b = j := by have := h2.1; omega
      subst ea eb
      obtain ⟨_, q1, hq1, n1⟩ := h1
      obtain ⟨_, q2, hq2, n2⟩ := h2
      obtain ⟨n0, hn0, e0⟩ := next_some hq1
      rw [hn] at hn0; cases hn0
      obtain ⟨m0, hm0, e0'⟩ := next_some hq2
      rw [hm] at hm0; cases hm0
      rw [← e0] at n1
      rw [← e0'] at n2
      have hms0 : msE os (E ++ [e]) = msE os E + ((TR os a).length + (r.flatMap (TR os)).length) := by
        unfold msE; simp [hl]
      have hms : msE os (((E ++ pushE ⟨n.next, m.next, r, r'⟩) ++ pushE ⟨n.first, m.first, o.kids, p.kids⟩) ++ pushE ⟨n.inner, m.inner, innerL o, innerL p⟩) = msE os E + (r.flatMap (TR os)).length + (o.kids.flatMap (TR os)).length + ((innerL o).flatMap (TR os)).length := by
        rw [pushE_ms (ns := ns) i1, pushE_ms (ns := ns) f1, pushE_ms (ns := ns) n1]
      have l0 := pushE_len ⟨n.next, m.next, r, r'⟩ E
      have l1 := pushE_len ⟨n.first, m.first, o.kids, p.kids⟩ (E ++ pushE ⟨n.next, m.next, r, r'⟩)
      have l2 := pushE_len ⟨n.inner, m.inner, innerL o, innerL p⟩ ((E ++ pushE ⟨n.next, m.next, r, r'⟩) ++ pushE ⟨n.first, m.first, o.kids, p.kids⟩)
      have hEl : (E ++ [e]).length = E.length + 1 := by simp
      refine ⟨r, r', .inr ⟨rfl, pushE_ok i1 i2 (pushE_ok f1 f2 (pushE_ok n1 n2 (fun q hq => hok q (by simp [hq])))), ?_, ?_, ?_⟩, ?_⟩
      · rw [hs, allE_last, hl, hmm, allF, SS_some sA ho hp, ← eqN_of (sA.same a n o hn ho) (sB.same b m p hm hp), hq, pushE_all i1 i2, pushE_all f1 f2, pushE_all n1 n2]
        simp only [Bool.true_and]
        cases allE os os' E <;> cases allF (SS os os') r r' <;> cases allF (SS os os') o.kids p.kids <;> cases allF (SS os os') (innerL o) (innerL p) <;> rfl
      · omega
      · omega
      · omega
end
end Go.Proofs.Ytlbkoafeedlfaaa

namespace Go.Proofs.Ytlbkoafeedlfaaa
open Go.RowKit

def zeroN : NodeM := ⟨0, 0, ⟨#[]⟩, .slice none 0 0, ⟨#[]⟩, ⟨#[]⟩, 0, 0, 0, 0, 0, 0, []⟩

theorem nodeK {w : World} {base bA : Nat} {ns : List NodeM} {F : Nat → Prop} (h : ArS w base bA ns F) (k : Int) :
    ∃ (n : NodeM) (er : Int), ((er = 0 ∧ ∃ i : Nat, k = i ∧ ns[i]? = some n) ∨ (er = 6 ∧ hasM ns k = false)) ∧ n.attrs.length ≤ 1024 ∧
      ∀ W, Below w.heap.size w W → Calls Try.prog 18 #[.pointer (some ⟨bA, 0, none⟩), .int .i64 k] W fun e w' => ∃ a c, e = .returned (.tuple #[.agg #[.int .i64 n.kind, .int .i64 n.space, .string n.name, .slice a n.attrs.length c, .string n.data, .string n.system, .int .i64 n.parent, .int .i64 n.first, .int .i64 n.last, .int .i64 n.prev, .int .i64 n.next, .int .i64 n.inner], .int .i64 er]) ∧ AttrsIn w' a n.attrs ∧ Below W.heap.size W w' := by
  cases hk : hasM ns k with
  | true =>
    obtain ⟨i, rfl, hi⟩ := hasM_eq.1 hk
    refine ⟨ns[i], 0, .inl ⟨rfl, i, rfl, List.getElem?_eq_getElem hi⟩, ?_, fun W hW => nodeA h hW (List.getElem?_eq_getElem hi)⟩
    obtain ⟨bS, g, cap, har, _⟩ := h
    exact har.few i _ (List.getElem?_eq_getElem hi)
  | false =>
    refine ⟨zeroN, 6, .inr ⟨rfl, rfl⟩, by simp [zeroN], fun W hW => (node_no (h.below hW) k hk).mono fun e w' ⟨h1, h2⟩ => ⟨none, 0, h1, ⟨fun i x hi => by simp [zeroN] at hi⟩, h2⟩⟩

theorem list_last {α : Type} (l : List α) (h : l.length ≠ 0) : ∃ r a, l = r ++ [a] := by
  have hne : l ≠ [] := by intro e; subst e; exact h rfl
  exact ⟨l.dropLast, l.getLast hne, (List.dropLast_concat_getLast hne).symm⟩
theorem cellsE_last (E : List Ent) (e : Ent) : cellsE (E ++ [e]) = cellsE E ++ [.int .i64 e.x, .int .i64 e.y] := by unfold cellsE; simp

/-- A put beside two boxes. -/
theorem PutSt.boxes {F : Nat → Prop} {w w' : World} {base b B1 B2 : Nat} {E : List Ent} (h : PutSt F w w' base b E) (h1 : B1 < w.heap.size) (h2 : B2 < w.heap.size) (f1 : ¬ F B1) (f2 : ¬ F B2) :
    (∀ j, w'.cell? ⟨B1, j, none⟩ = w.cell? ⟨B1, j, none⟩) ∧ (∀ j, w'.cell? ⟨B2, j, none⟩ = w.cell? ⟨B2, j, none⟩) ∧ B1 < w'.heap.size ∧ B2 < w'.heap.size ∧ Below base w w' ∧ ∃ F', StS w' base b 125 128 2 E.length (cellsE E) F' ∧ ¬ F' B1 ∧ ¬ F' B2 := by
  obtain ⟨F', hs, hk, hF, hB⟩ := h
  refine ⟨fun j => World.cell?_of_block (hk B1 h1 f1), fun j => World.cell?_of_block (hk B2 h2 f2), Nat.lt_of_lt_of_le h1 hB.size, Nat.lt_of_lt_of_le h2 hB.size, hB, F', hs, ?_, ?_⟩
  · intro hf; rcases hF B1 hf with e | e
    · exact f1 e
    · omega
  · intro hf; rcases hF B2 hf with e | e
    · exact f2 e
    · omega

theorem pair_box {w w3 : World} {x y : Int} (hb : Below (w.alloc (.cells #[.int .i64 x, .int .i64 y] 128)).heap.size (w.alloc (.cells #[.int .i64 x, .int .i64 y] 128)) w3) : w3.cell? ⟨w.heap.size, 1, none⟩ = some (.int .i64 y) := by
  rw [hb.cell (p := ⟨w.heap.size, 1, none⟩) (by simp)]; simp
theorem below_box {v w w3 : World} {o : Obj} (h : Below v.heap.size v w) (hb : Below (w.alloc o).heap.size (w.alloc o) w3) : Below v.heap.size v w3 :=
  (h.alloc h.size o).trans (hb.mono (h.alloc h.size o).size)
theorem attrs_box {w w4 : World} {o : Obj} {a : Option Addr} {l : List AttrM} (h : AttrsIn w a l) (hb : Below (w.alloc o).heap.size (w.alloc o) w4) : AttrsIn w4 a l :=
  (h.below ((Below.refl _ w).alloc (Nat.le_refl _) o)).below hb

theorem st_new' (w : World) : StS (w.alloc (.cells #[.slice none 0 0] 125)) w.heap.size w.heap.size 125 128 2 0 [] (fun k => k = w.heap.size) :=
  ⟨.slice none 0 0, ⟨heap_alloc_new w _, World.ownsRow_nil _ _ _ _, Nat.le_refl _, by decide⟩, fun k => by simp [Value.ownBlock]⟩

set_option maxHeartbeats 8000000 in
theorem sameS_any {w : World} {base1 base2 bA bB : Nat} {ns ns' : List NodeM} {os os' : List OneM} {F1 F2 : Nat → Prop} (hA : ArS w base1 bA ns F1) (hB : ArS w base2 bB ns' F2) (sA : Sim ns os) (sB : Sim ns' os') (x y : Int) :
    Calls Try.prog 31 #[.pointer (some ⟨bA, 0, none⟩), .int .i64 x, .pointer (some ⟨bB, 0, none⟩), .int .i64 y] w fun e w' => e = .returned (.bool (SSI os os' x y)) ∧ Below w.heap.size w w' := by
  have hN : os.length ≤ 32768 := by rw [← sA.len]; obtain ⟨bS, g, cap, har, _⟩ := hA; exact har.most
  have HP := hide (push_pair (st_new' w) x y (by omega))
  have HA := hide hA
  have HB := hide hB
  have SA := hide sA
  have SB := hide sB
  have HN := hide hN
  clear hA hB sA sB hN
  go_enter Try.func31, Try.ntmps31
  set_option maxRecDepth 10000 in
  go_wp2_with (first | (go_at_call 82; refine (unhide HP).mono ?_; rintro e w1 ⟨rfl, F1', h1, hm1, hF1⟩; have H1 := hide h1; have HM1 := hide hm1; clear h1 hm1 hF1))
  have HB1 : Hid (Below w.heap.size w w1) := hide (((Below.refl _ w).alloc (Nat.le_refl _) _).trans ((unhide HM1).below (by simp) (fun k hk => Nat.le_of_eq hk.symm)))
  clear HM1
  go_loopg [11, 12, 13, 14, 15, 16] (os.length + 1) (fun g s11 _ _ _ _ _ wx => ∃ E F, StS wx w.heap.size w.heap.size 125 128 2 E.length (cellsE E) F ∧ Below w.heap.size w wx ∧ Rel ns ns' os os' x y g s11 E)
  case atStart => exact ⟨[⟨x, y, [], []⟩], F1', unhide H1, unhide HB1, .inl ⟨rfl, ⟨[], [], rfl⟩, rfl⟩⟩
  case round =>
    clear H1 HB1 HP
    obtain ⟨E, F, hst, hbw, hrel⟩ := hrel
    have HEm := hide (empty_pair hst)
    have HBW := hide hbw
    have HREL := hide hrel
    by_cases hE0 : E.length = 0
    · have hd : decide (E.length = 0) = true := decide_eq_true hE0
      rw [hd] at HEm
      have hEn : E = [] := List.length_eq_zero_iff.1 hE0
      have HR : Hid (SSI os os' x y = true) := hide (by
        rcases hrel with ⟨_, ⟨l, m, he⟩, _⟩ | ⟨_, _, hs, _, _⟩
        · rw [hEn] at he; cases he
        · rw [hs, hEn]; rfl)
      clear hst hbw hrel hd hE0 hEn
      set_option maxRecDepth 10000 in
      go_wp2_with (first | (go_at_call 83; refine (unhide HEm).mono ?_; rintro e w' ⟨rfl, rfl⟩))
      go_ret
      exact ⟨by rw [unhide HR]; rfl, unhide HBW⟩
    · have hd : decide (E.length = 0) = false := decide_eq_false hE0
      rw [hd] at HEm
      obtain ⟨E', e, rfl⟩ := list_last E hE0
      have hshort := hrel.short
      have hN := unhide HN
      rw [List.length_append, List.length_singleton] at hshort
      have hst' := hst
      rw [cellsE_last, List.length_append, List.length_singleton] at hst'
      have HQ := hide (pop_pair hst' (by omega))
      have HFG : Hid (∀ k, F k → w.heap.size ≤ k) := hide (fun k hk => (hst.lt hk).1)
      have HFL : Hid (∀ k, F k → k < wr.heap.size) := hide (fun k hk => (hst.lt hk).2)
      have HLEN : Hid (E'.length + 3 ≤ 100000) := hide (by omega)
      clear hst hst' hbw hrel hd hE0 hshort hN
      obtain ⟨n1, er1, hc1, hl1, hn1⟩ := nodeK (unhide HA) e.x
      obtain ⟨n2, er2, hc2, hl2, hn2⟩ := nodeK (unhide HB) e.y
      have HC1 := hide hc1
      have HC2 := hide hc2
      have HL1 := hide hl1
      have HN1 := hide hn1
      have HN2 := hide hn2
      clear hc1 hc2 hl1 hl2 hn1 hn2
      have HAL : Hid (∀ W a1 c1 a2 c2, AttrsIn W a1 n1.attrs → AttrsIn W a2 n2.attrs → Calls Try.prog 85 #[.agg #[.int .i64 n1.kind, .int .i64 n1.space, .string n1.name, .slice a1 n1.attrs.length c1, .string n1.data, .string n1.system, .int .i64 n1.parent, .int .i64 n1.first, .int .i64 n1.last, .int .i64 n1.prev, .int .i64 n1.next, .int .i64 n1.inner],
        .agg #[.int .i64 n2.kind, .int .i64 n2.space, .string n2.name, .slice a2 n2.attrs.length c2, .string n2.data, .string n2.system, .int .i64 n2.parent, .int .i64 n2.first, .int .i64 n2.last, .int .i64 n2.prev, .int .i64 n2.next, .int .i64 n2.inner]] W fun e w' => e = .returned (.bool (eqN n1 n2)) ∧ Below W.heap.size W w') := hide (fun W a1 c1 a2 c2 h1 h2 => alikeS_any a1 a2 c1 c2 n1.attrs n2.attrs h1 h2 (unhide HL1) _ _ _ _ _ _ _ _ _ _ _ _ _ _ _ _ _ _ _ _ _ _)
      rcases unhide HC1 with ⟨rfl, i, hxi, hni⟩ | ⟨rfl, hno⟩
      · rcases unhide HC2 with ⟨rfl, j, hyj, hmj⟩ | ⟨rfl, hno⟩
        · cases hq : eqN n1 n2 with
          | false =>
            rw [hq] at HAL
            have HR : Hid (SSI os os' x y = false) := hide ((unhide HREL).bad (unhide SA) (unhide SB) (.inr (.inr ⟨i, j, n1, n2, hxi, hni, hyj, hmj, hq⟩)))
            clear HREL hxi hni hyj hmj hq HC1 HC2
            set_option maxRecDepth 10000 in
            go_wp2_with (first
              | (go_at_call 83; refine (unhide HEm).mono ?_; rintro v w' ⟨rfl, rfl⟩)
              | (go_at_call 84; refine (unhide HQ).mono ?_; rintro v w2 ⟨rfl, F2, h2, hm2, hF2⟩; have H2 := hide h2; have HB2 := hide ((unhide HBW).trans (hm2.below (unhide HBW).size (unhide HFG))); clear h2 hm2 hF2)
              | (go_at_call 18; have _x := unhide HB3; refine ((unhide HN2) _ ((unhide HB3).alloc (unhide HB3).size _)).mono ?_; rintro v w4 ⟨a2, c2, rfl, hat2, hb4⟩; obtain ⟨z0, z1, z2, z3, z4, z5, z6, z7, z8, z9, z10, z11, hz⟩ := box12 hb4; have HAT2 := hide (hat2.below ((Below.refl _ w4).alloc (Nat.le_refl _) (.cells #[.int .i64 n2.kind, .int .i64 n2.space, .string n2.name, .slice a2 n2.attrs.length c2, .string n2.data, .string n2.system, .int .i64 n2.parent, .int .i64 n2.first, .int .i64 n2.last, .int .i64 n2.prev, .int .i64 n2.next, .int .i64 n2.inner] 37))); have HAT1' := hide ((attrs_box (unhide HAT1) hb4).below ((Below.refl _ w4).alloc (Nat.le_refl _) (.cells #[.int .i64 n2.kind, .int .i64 n2.space, .string n2.name, .slice a2 n2.attrs.length c2, .string n2.data, .string n2.system, .int .i64 n2.parent, .int .i64 n2.first, .int .i64 n2.last, .int .i64 n2.prev, .int .i64 n2.next, .int .i64 n2.inner] 37))); have HB4 := hide (below_box (unhide HB3) hb4); have HB24 := hide (below_box (unhide HB23) hb4); clear hat2 hb4)
              | (go_at_call 18; refine ((unhide HN1) _ ((unhide HB2).alloc (unhide HB2).size _)).mono ?_; rintro v w3 ⟨a1, c1, rfl, hat1, hb3⟩; have hpy := pair_box hb3; have HAT1 := hide hat1; have HB3 := hide (below_box (unhide HB2) hb3); have HB23 := hide (below_box (Below.refl _ w2) hb3); have hs3 : w2.heap.size < w3.heap.size := (by have := hb3.size; simp at this; omega); clear hat1 hb3)
              | (go_at_call 85; refine ((unhide HAL) _ _ _ _ _ (unhide HAT1') (unhide HAT2)).mono ?_; rintro v w5 ⟨rfl, hb5⟩; obtain ⟨y0, y1, y2, y3, y4, y5, y6, y7, y8, y9, y10, y11, hy⟩ := box12 hb5; have x7 := (hb5.cell (p := ⟨w3.heap.size, 7, none⟩) (by simp; omega)).trans ((World.cell?_alloc_past _ _ _ hz).trans z7); have x10 := (hb5.cell (p := ⟨w3.heap.size, 10, none⟩) (by simp; omega)).trans ((World.cell?_alloc_past _ _ _ hz).trans z10); have x11 := (hb5.cell (p := ⟨w3.heap.size, 11, none⟩) (by simp; omega)).trans ((World.cell?_alloc_past _ _ _ hz).trans z11); have HB5 := hide (below_box (unhide HB4) hb5); have HB25 := hide (below_box (unhide HB24) hb5); clear hb5))
            go_ret
            exact ⟨by rw [unhide HR]; rfl, unhide HB5⟩
          | true =>
            rw [hq] at HAL
            obtain ⟨o, ho, sm⟩ := (unhide SA).getO hni
            obtain ⟨p, hp, sm'⟩ := (unhide SB).getO hmj
            rcases unhide HREL with ⟨hs, ⟨l, m, hE⟩, hg⟩ | ⟨hs, hrest⟩
            · have hE2 : E' = [] ∧ e = ⟨x, y, l, m⟩ := by
                cases E' with
                | nil => exact ⟨rfl, by simpa using hE⟩
                | cons a r => simp at hE
              obtain ⟨rfl, he⟩ := hE2
              have hx : x = i := by rw [he] at hxi; exact hxi
              have hy : y = j := by rw [he] at hyj; exact hyj
              obtain ⟨g, hgl, hR⟩ := Rel.top (unhide SA) (unhide SB) hx hy hni hmj ho hp hq
              have HRR := hide hR
              have HGL : Hid (g < gk) := hide (by omega)
              have HL5 : Hid (([] : List Ent).length ≤ 100000) := hide (by simp)
              have HL6 : Hid (([] ++ pushE ⟨n1.first, n2.first, o.kids, p.kids⟩ : List Ent).length ≤ 100000) := hide (by have := pushE_len ⟨n1.first, n2.first, o.kids, p.kids⟩ []; simp only [List.length_nil] at this; omega)
              subst hs
              clear HREL hxi hni hyj hmj hq HC1 HC2 hE he hx hy hR hg hgl ho hp sm sm'
              set_option maxRecDepth 10000 in
              go_wp2_with (first
                | (go_at_call 83; refine (unhide HEm).mono ?_; rintro v w' ⟨rfl, rfl⟩)
                | (go_at_call 84; refine (unhide HQ).mono ?_; rintro v w2 ⟨rfl, F2, h2, hm2, hF2⟩; have H2 := hide h2; have HB2 := hide ((unhide HBW).trans (hm2.below (unhide HBW).size (unhide HFG))); clear h2 hm2 hF2)
                | (go_at_call 18; have _x := unhide HB3; refine ((unhide HN2) _ ((unhide HB3).alloc (unhide HB3).size _)).mono ?_; rintro v w4 ⟨a2, c2, rfl, hat2, hb4⟩; obtain ⟨z0, z1, z2, z3, z4, z5, z6, z7, z8, z9, z10, z11, hz⟩ := box12 hb4; have HAT2 := hide (hat2.below ((Below.refl _ w4).alloc (Nat.le_refl _) (.cells #[.int .i64 n2.kind, .int .i64 n2.space, .string n2.name, .slice a2 n2.attrs.length c2, .string n2.data, .string n2.system, .int .i64 n2.parent, .int .i64 n2.first, .int .i64 n2.last, .int .i64 n2.prev, .int .i64 n2.next, .int .i64 n2.inner] 37))); have HAT1' := hide ((attrs_box (unhide HAT1) hb4).below ((Below.refl _ w4).alloc (Nat.le_refl _) (.cells #[.int .i64 n2.kind, .int .i64 n2.space, .string n2.name, .slice a2 n2.attrs.length c2, .string n2.data, .string n2.system, .int .i64 n2.parent, .int .i64 n2.first, .int .i64 n2.last, .int .i64 n2.prev, .int .i64 n2.next, .int .i64 n2.inner] 37))); have HB4 := hide (below_box (unhide HB3) hb4); have HB24 := hide (below_box (unhide HB23) hb4); clear hat2 hb4)
                | (go_at_call 18; refine ((unhide HN1) _ ((unhide HB2).alloc (unhide HB2).size _)).mono ?_; rintro v w3 ⟨a1, c1, rfl, hat1, hb3⟩; have hpy := pair_box hb3; have HAT1 := hide hat1; have HB3 := hide (below_box (unhide HB2) hb3); have HB23 := hide (below_box (Below.refl _ w2) hb3); have hs3 : w2.heap.size < w3.heap.size := (by have := hb3.size; simp at this; omega); clear hat1 hb3)
                | (go_at_call 85; refine ((unhide HAL) _ _ _ _ _ (unhide HAT1') (unhide HAT2)).mono ?_; rintro v w5 ⟨rfl, hb5⟩; obtain ⟨y0, y1, y2, y3, y4, y5, y6, y7, y8, y9, y10, y11, hy⟩ := box12 hb5; have x7 := (hb5.cell (p := ⟨w3.heap.size, 7, none⟩) (by simp; omega)).trans ((World.cell?_alloc_past _ _ _ hz).trans z7); have x10 := (hb5.cell (p := ⟨w3.heap.size, 10, none⟩) (by simp; omega)).trans ((World.cell?_alloc_past _ _ _ hz).trans z10); have x11 := (hb5.cell (p := ⟨w3.heap.size, 11, none⟩) (by simp; omega)).trans ((World.cell?_alloc_past _ _ _ hz).trans z11); have HB5 := hide (below_box (unhide HB4) hb5); have HB25 := hide (below_box (unhide HB24) hb5); have H5 := hide ((unhide H2).below (unhide HB25)); have hx1 : w3.heap.size < w5.heap.size := Nat.lt_trans hz hy; have hx2 : w4.heap.size < w5.heap.size := hy; have hf1 : ¬ F2 w3.heap.size := (fun h => by have := ((unhide H2).lt h).2; omega); have hf2 : ¬ F2 w4.heap.size := (fun h => by have := ((unhide H2).lt h).2; omega); clear hb5)
                | (go_at_call 81; have _x := unhide H6; refine (put_any (unhide H6) (unhide HB6).size (unhide HL6) ⟨n1.inner, n2.inner, innerL o, innerL p⟩).mono ?_; rintro v w7 ⟨rfl, hp7⟩; obtain ⟨q1, q2, q3, q4, q5, F7, h7, g1, g2⟩ := hp7.boxes hx1 hx2 hf1 hf2; have H7 := hide h7; have HB7 := hide ((unhide HB6).trans q5); have x11 := (q1 11).trans x11; have y11 := (q2 11).trans y11; clear hx1 hx2 hf1 hf2; have hx1 := q3; have hx2 := q4; have hf1 := g1; have hf2 := g2; clear q1 q2 q3 q4 q5 g1 g2 hp7 h7)
                | (go_at_call 81; refine (put_any (unhide H5) (unhide HB5).size (unhide HL5) ⟨n1.first, n2.first, o.kids, p.kids⟩).mono ?_; rintro v w6 ⟨rfl, hp6⟩; obtain ⟨q1, q2, q3, q4, q5, F6, h6, g1, g2⟩ := hp6.boxes hx1 hx2 hf1 hf2; have H6 := hide h6; have HB6 := hide ((unhide HB5).trans q5); have x7 := (q1 7).trans x7; have y7 := (q2 7).trans y7; have x11 := (q1 11).trans x11; have y11 := (q2 11).trans y11; clear hx1 hx2 hf1 hf2; have hx1 := q3; have hx2 := q4; have hf1 := g1; have hf2 := g2; clear q1 q2 q3 q4 q5 g1 g2 hp6 h6))
              go_roundg g
              case measure => exact unhide HGL
              case rel => exact ⟨_, F7, unhide H7, unhide HB7, unhide HRR⟩
            · subst hs
              obtain ⟨l', m', hR, hgl⟩ := Rel.step (unhide SA) (unhide SB) (.inr ⟨rfl, hrest⟩) hxi hyj hni hmj ho hp hq
              have HRR := hide hR
              have HGL : Hid (gk - 1 < gk) := hide hgl
              have HL5 : Hid (E'.length ≤ 100000) := hide (by have := unhide HLEN; omega)
              have HL6 : Hid ((E' ++ pushE ⟨n1.next, n2.next, l', m'⟩).length ≤ 100000) := hide (by have := unhide HLEN; have := pushE_len ⟨n1.next, n2.next, l', m'⟩ E'; omega)
              have HL7 : Hid (((E' ++ pushE ⟨n1.next, n2.next, l', m'⟩) ++ pushE ⟨n1.first, n2.first, o.kids, p.kids⟩).length ≤ 100000) := hide (by have := unhide HLEN; have := pushE_len ⟨n1.next, n2.next, l', m'⟩ E'; have := pushE_len ⟨n1.first, n2.first, o.kids, p.kids⟩ (E' ++ pushE ⟨n1.next, n2.next, l', m'⟩); omega)
              clear HREL hxi hni hyj hmj hq HC1 HC2 hrest hR hgl ho hp sm sm'
              set_option maxRecDepth 10000 in
              go_wp2_with (first
                | (go_at_call 83; refine (unhide HEm).mono ?_; rintro v w' ⟨rfl, rfl⟩)
                | (go_at_call 84; refine (unhide HQ).mono ?_; rintro v w2 ⟨rfl, F2, h2, hm2, hF2⟩; have H2 := hide h2; have HB2 := hide ((unhide HBW).trans (hm2.below (unhide HBW).size (unhide HFG))); clear h2 hm2 hF2)
                | (go_at_call 18; have _x := unhide HB3; refine ((unhide HN2) _ ((unhide HB3).alloc (unhide HB3).size _)).mono ?_; rintro v w4 ⟨a2, c2, rfl, hat2, hb4⟩; obtain ⟨z0, z1, z2, z3, z4, z5, z6, z7, z8, z9, z10, z11, hz⟩ := box12 hb4; have HAT2 := hide (hat2.below ((Below.refl _ w4).alloc (Nat.le_refl _) (.cells #[.int .i64 n2.kind, .int .i64 n2.space, .string n2.name, .slice a2 n2.attrs.length c2, .string n2.data, .string n2.system, .int .i64 n2.parent, .int .i64 n2.first, .int .i64 n2.last, .int .i64 n2.prev, .int .i64 n2.next, .int .i64 n2.inner] 37))); have HAT1' := hide ((attrs_box (unhide HAT1) hb4).below ((Below.refl _ w4).alloc (Nat.le_refl _) (.cells #[.int .i64 n2.kind, .int .i64 n2.space, .string n2.name, .slice a2 n2.attrs.length c2, .string n2.data, .string n2.system, .int .i64 n2.parent, .int .i64 n2.first, .int .i64 n2.last, .int .i64 n2.prev, .int .i64 n2.next, .int .i64 n2.inner] 37))); have HB4 := hide (below_box (unhide HB3) hb4); have HB24 := hide (below_box (unhide HB23) hb4); clear hat2 hb4)
                | (go_at_call 18; refine ((unhide HN1) _ ((unhide HB2).alloc (unhide HB2).size _)).mono ?_; rintro v w3 ⟨a1, c1, rfl, hat1, hb3⟩; have hpy := pair_box hb3; have HAT1 := hide hat1; have HB3 := hide (below_box (unhide HB2) hb3); have HB23 := hide (below_box (Below.refl _ w2) hb3); have hs3 : w2.heap.size < w3.heap.size := (by have := hb3.size; simp at this; omega); clear hat1 hb3)
                | (go_at_call 85; refine ((unhide HAL) _ _ _ _ _ (unhide HAT1') (unhide HAT2)).mono ?_; rintro v w5 ⟨rfl, hb5⟩; obtain ⟨y0, y1, y2, y3, y4, y5, y6, y7, y8, y9, y10, y11, hy⟩ := box12 hb5; have x7 := (hb5.cell (p := ⟨w3.heap.size, 7, none⟩) (by simp; omega)).trans ((World.cell?_alloc_past _ _ _ hz).trans z7); have x10 := (hb5.cell (p := ⟨w3.heap.size, 10, none⟩) (by simp; omega)).trans ((World.cell?_alloc_past _ _ _ hz).trans z10); have x11 := (hb5.cell (p := ⟨w3.heap.size, 11, none⟩) (by simp; omega)).trans ((World.cell?_alloc_past _ _ _ hz).trans z11); have HB5 := hide (below_box (unhide HB4) hb5); have HB25 := hide (below_box (unhide HB24) hb5); have H5 := hide ((unhide H2).below (unhide HB25)); have hx1 : w3.heap.size < w5.heap.size := Nat.lt_trans hz hy; have hx2 : w4.heap.size < w5.heap.size := hy; have hf1 : ¬ F2 w3.heap.size := (fun h => by have := ((unhide H2).lt h).2; omega); have hf2 : ¬ F2 w4.heap.size := (fun h => by have := ((unhide H2).lt h).2; omega); clear hb5)
                | (go_at_call 81; have _x := unhide H7; refine (put_any (unhide H7) (unhide HB7).size (unhide HL7) ⟨n1.inner, n2.inner, innerL o, innerL p⟩).mono ?_; rintro v w8 ⟨rfl, hp8⟩; obtain ⟨q1, q2, q3, q4, q5, F8, h8, g1, g2⟩ := hp8.boxes hx1 hx2 hf1 hf2; have H8 := hide h8; have HB8 := hide ((unhide HB7).trans q5); clear q1 q2 q3 q4 q5 g1 g2 hp8 h8)
                | (go_at_call 81; have _x := unhide H6; refine (put_any (unhide H6) (unhide HB6).size (unhide HL6) ⟨n1.first, n2.first, o.kids, p.kids⟩).mono ?_; rintro v w7 ⟨rfl, hp7⟩; obtain ⟨q1, q2, q3, q4, q5, F7, h7, g1, g2⟩ := hp7.boxes hx1 hx2 hf1 hf2; have H7 := hide h7; have HB7 := hide ((unhide HB6).trans q5); have x11 := (q1 11).trans x11; have y11 := (q2 11).trans y11; clear hx1 hx2 hf1 hf2; have hx1 := q3; have hx2 := q4; have hf1 := g1; have hf2 := g2; clear q1 q2 q3 q4 q5 g1 g2 hp7 h7)
                | (go_at_call 81; refine (put_any (unhide H5) (unhide HB5).size (unhide HL5) ⟨n1.next, n2.next, l', m'⟩).mono ?_; rintro v w6 ⟨rfl, hp6⟩; obtain ⟨q1, q2, q3, q4, q5, F6, h6, g1, g2⟩ := hp6.boxes hx1 hx2 hf1 hf2; have H6 := hide h6; have HB6 := hide ((unhide HB5).trans q5); have x7 := (q1 7).trans x7; have y7 := (q2 7).trans y7; have x11 := (q1 11).trans x11; have y11 := (q2 11).trans y11; clear hx1 hx2 hf1 hf2; have hx1 := q3; have hx2 := q4; have hf1 := g1; have hf2 := g2; clear q1 q2 q3 q4 q5 g1 g2 hp6 h6))
              go_roundg (gk - 1)
              case measure => exact unhide HGL
              case rel => exact ⟨_, F8, unhide H8, unhide HB8, unhide HRR⟩
        · have HNO := hide hno
          have HR : Hid (SSI os os' x y = false) := hide ((unhide HREL).bad (unhide SA) (unhide SB) (.inr (.inl (unhide HNO))))
          clear HREL hno hxi hni HC1 HC2
          set_option maxRecDepth 10000 in
          go_wp2_with (first
            | (go_at_call 83; refine (unhide HEm).mono ?_; rintro v w' ⟨rfl, rfl⟩)
            | (go_at_call 84; refine (unhide HQ).mono ?_; rintro v w2 ⟨rfl, F2, h2, hm2, hF2⟩; have H2 := hide h2; have HB2 := hide ((unhide HBW).trans (hm2.below (unhide HBW).size (unhide HFG))); clear h2 hm2 hF2)
            | (go_at_call 18; have _x := unhide HB3; refine ((unhide HN2) _ ((unhide HB3).alloc (unhide HB3).size _)).mono ?_; rintro v w4 ⟨a2, c2, rfl, hat2, hb4⟩; obtain ⟨z0, z1, z2, z3, z4, z5, z6, z7, z8, z9, z10, z11, hz⟩ := box12 hb4; have HAT2 := hide (hat2.below ((Below.refl _ w4).alloc (Nat.le_refl _) (.cells #[.int .i64 n2.kind, .int .i64 n2.space, .string n2.name, .slice a2 n2.attrs.length c2, .string n2.data, .string n2.system, .int .i64 n2.parent, .int .i64 n2.first, .int .i64 n2.last, .int .i64 n2.prev, .int .i64 n2.next, .int .i64 n2.inner] 37))); have HAT1' := hide ((attrs_box (unhide HAT1) hb4).below ((Below.refl _ w4).alloc (Nat.le_refl _) (.cells #[.int .i64 n2.kind, .int .i64 n2.space, .string n2.name, .slice a2 n2.attrs.length c2, .string n2.data, .string n2.system, .int .i64 n2.parent, .int .i64 n2.first, .int .i64 n2.last, .int .i64 n2.prev, .int .i64 n2.next, .int .i64 n2.inner] 37))); have HB4 := hide (below_box (unhide HB3) hb4); have HB24 := hide (below_box (unhide HB23) hb4); clear hat2 hb4)
            | (go_at_call 18; refine ((unhide HN1) _ ((unhide HB2).alloc (unhide HB2).size _)).mono ?_; rintro v w3 ⟨a1, c1, rfl, hat1, hb3⟩; have hpy := pair_box hb3; have HAT1 := hide hat1; have HB3 := hide (below_box (unhide HB2) hb3); have HB23 := hide (below_box (Below.refl _ w2) hb3); have hs3 : w2.heap.size < w3.heap.size := (by have := hb3.size; simp at this; omega); clear hat1 hb3)
            | (go_at_call 85; refine ((unhide HAL) _ _ _ _ _ (unhide HAT1') (unhide HAT2)).mono ?_; rintro v w5 ⟨rfl, hb5⟩; obtain ⟨y0, y1, y2, y3, y4, y5, y6, y7, y8, y9, y10, y11, hy⟩ := box12 hb5; have x7 := (hb5.cell (p := ⟨w3.heap.size, 7, none⟩) (by simp; omega)).trans ((World.cell?_alloc_past _ _ _ hz).trans z7); have x10 := (hb5.cell (p := ⟨w3.heap.size, 10, none⟩) (by simp; omega)).trans ((World.cell?_alloc_past _ _ _ hz).trans z10); have x11 := (hb5.cell (p := ⟨w3.heap.size, 11, none⟩) (by simp; omega)).trans ((World.cell?_alloc_past _ _ _ hz).trans z11); have HB5 := hide (below_box (unhide HB4) hb5); have HB25 := hide (below_box (unhide HB24) hb5); clear hb5))
          go_ret
          exact ⟨by rw [unhide HR]; rfl, (unhide HB4).alloc (unhide HB4).size _⟩
      · have HNO := hide hno
        clear hno
        rcases unhide HC2 with ⟨rfl, j, hyj, hmj⟩ | ⟨rfl, hno2⟩
        · clear hyj hmj
          have HR : Hid (SSI os os' x y = false) := hide ((unhide HREL).bad (unhide SA) (unhide SB) (.inl (unhide HNO)))
          clear HREL HC1 HC2
          set_option maxRecDepth 10000 in
          go_wp2_with (first
            | (go_at_call 83; refine (unhide HEm).mono ?_; rintro v w' ⟨rfl, rfl⟩)
            | (go_at_call 84; refine (unhide HQ).mono ?_; rintro v w2 ⟨rfl, F2, h2, hm2, hF2⟩; have H2 := hide h2; have HB2 := hide ((unhide HBW).trans (hm2.below (unhide HBW).size (unhide HFG))); clear h2 hm2 hF2)
            | (go_at_call 18; have _x := unhide HB3; refine ((unhide HN2) _ ((unhide HB3).alloc (unhide HB3).size _)).mono ?_; rintro v w4 ⟨a2, c2, rfl, hat2, hb4⟩; obtain ⟨z0, z1, z2, z3, z4, z5, z6, z7, z8, z9, z10, z11, hz⟩ := box12 hb4; have HAT2 := hide (hat2.below ((Below.refl _ w4).alloc (Nat.le_refl _) (.cells #[.int .i64 n2.kind, .int .i64 n2.space, .string n2.name, .slice a2 n2.attrs.length c2, .string n2.data, .string n2.system, .int .i64 n2.parent, .int .i64 n2.first, .int .i64 n2.last, .int .i64 n2.prev, .int .i64 n2.next, .int .i64 n2.inner] 37))); have HAT1' := hide ((attrs_box (unhide HAT1) hb4).below ((Below.refl _ w4).alloc (Nat.le_refl _) (.cells #[.int .i64 n2.kind, .int .i64 n2.space, .string n2.name, .slice a2 n2.attrs.length c2, .string n2.data, .string n2.system, .int .i64 n2.parent, .int .i64 n2.first, .int .i64 n2.last, .int .i64 n2.prev, .int .i64 n2.next, .int .i64 n2.inner] 37))); have HB4 := hide (below_box (unhide HB3) hb4); have HB24 := hide (below_box (unhide HB23) hb4); clear hat2 hb4)
            | (go_at_call 18; refine ((unhide HN1) _ ((unhide HB2).alloc (unhide HB2).size _)).mono ?_; rintro v w3 ⟨a1, c1, rfl, hat1, hb3⟩; have hpy := pair_box hb3; have HAT1 := hide hat1; have HB3 := hide (below_box (unhide HB2) hb3); have HB23 := hide (below_box (Below.refl _ w2) hb3); have hs3 : w2.heap.size < w3.heap.size := (by have := hb3.size; simp at this; omega); clear hat1 hb3)
            | (go_at_call 85; refine ((unhide HAL) _ _ _ _ _ (unhide HAT1') (unhide HAT2)).mono ?_; rintro v w5 ⟨rfl, hb5⟩; obtain ⟨y0, y1, y2, y3, y4, y5, y6, y7, y8, y9, y10, y11, hy⟩ := box12 hb5; have x7 := (hb5.cell (p := ⟨w3.heap.size, 7, none⟩) (by simp; omega)).trans ((World.cell?_alloc_past _ _ _ hz).trans z7); have x10 := (hb5.cell (p := ⟨w3.heap.size, 10, none⟩) (by simp; omega)).trans ((World.cell?_alloc_past _ _ _ hz).trans z10); have x11 := (hb5.cell (p := ⟨w3.heap.size, 11, none⟩) (by simp; omega)).trans ((World.cell?_alloc_past _ _ _ hz).trans z11); have HB5 := hide (below_box (unhide HB4) hb5); have HB25 := hide (below_box (unhide HB24) hb5); clear hb5))
          go_ret
          exact ⟨by rw [unhide HR]; rfl, (unhide HB4).alloc (unhide HB4).size _⟩
        · clear hno2
          have HR : Hid (SSI os os' x y = false) := hide ((unhide HREL).bad (unhide SA) (unhide SB) (.inl (unhide HNO)))
          clear HREL HC1 HC2
          set_option maxRecDepth 10000 in
          go_wp2_with (first
            | (go_at_call 83; refine (unhide HEm).mono ?_; rintro v w' ⟨rfl, rfl⟩)
            | (go_at_call 84; refine (unhide HQ).mono ?_; rintro v w2 ⟨rfl, F2, h2, hm2, hF2⟩; have H2 := hide h2; have HB2 := hide ((unhide HBW).trans (hm2.below (unhide HBW).size (unhide HFG))); clear h2 hm2 hF2)
            | (go_at_call 18; have _x := unhide HB3; refine ((unhide HN2) _ ((unhide HB3).alloc (unhide HB3).size _)).mono ?_; rintro v w4 ⟨a2, c2, rfl, hat2, hb4⟩; obtain ⟨z0, z1, z2, z3, z4, z5, z6, z7, z8, z9, z10, z11, hz⟩ := box12 hb4; have HAT2 := hide (hat2.below ((Below.refl _ w4).alloc (Nat.le_refl _) (.cells #[.int .i64 n2.kind, .int .i64 n2.space, .string n2.name, .slice a2 n2.attrs.length c2, .string n2.data, .string n2.system, .int .i64 n2.parent, .int .i64 n2.first, .int .i64 n2.last, .int .i64 n2.prev, .int .i64 n2.next, .int .i64 n2.inner] 37))); have HAT1' := hide ((attrs_box (unhide HAT1) hb4).below ((Below.refl _ w4).alloc (Nat.le_refl _) (.cells #[.int .i64 n2.kind, .int .i64 n2.space, .string n2.name, .slice a2 n2.attrs.length c2, .string n2.data, .string n2.system, .int .i64 n2.parent, .int .i64 n2.first, .int .i64 n2.last, .int .i64 n2.prev, .int .i64 n2.next, .int .i64 n2.inner] 37))); have HB4 := hide (below_box (unhide HB3) hb4); have HB24 := hide (below_box (unhide HB23) hb4); clear hat2 hb4)
            | (go_at_call 18; refine ((unhide HN1) _ ((unhide HB2).alloc (unhide HB2).size _)).mono ?_; rintro v w3 ⟨a1, c1, rfl, hat1, hb3⟩; have hpy := pair_box hb3; have HAT1 := hide hat1; have HB3 := hide (below_box (unhide HB2) hb3); have HB23 := hide (below_box (Below.refl _ w2) hb3); have hs3 : w2.heap.size < w3.heap.size := (by have := hb3.size; simp at this; omega); clear hat1 hb3)
            | (go_at_call 85; refine ((unhide HAL) _ _ _ _ _ (unhide HAT1') (unhide HAT2)).mono ?_; rintro v w5 ⟨rfl, hb5⟩; obtain ⟨y0, y1, y2, y3, y4, y5, y6, y7, y8, y9, y10, y11, hy⟩ := box12 hb5; have x7 := (hb5.cell (p := ⟨w3.heap.size, 7, none⟩) (by simp; omega)).trans ((World.cell?_alloc_past _ _ _ hz).trans z7); have x10 := (hb5.cell (p := ⟨w3.heap.size, 10, none⟩) (by simp; omega)).trans ((World.cell?_alloc_past _ _ _ hz).trans z10); have x11 := (hb5.cell (p := ⟨w3.heap.size, 11, none⟩) (by simp; omega)).trans ((World.cell?_alloc_past _ _ _ hz).trans z11); have HB5 := hide (below_box (unhide HB4) hb5); have HB25 := hide (below_box (unhide HB24) hb5); clear hb5))
          go_ret
          exact ⟨by rw [unhide HR]; rfl, (unhide HB4).alloc (unhide HB4).size _⟩
end Go.Proofs.Ytlbkoafeedlfaaa

namespace Go.Proofs.Ytlbkoafeedlfaaa
open Go.RowKit

theorem size117 : (Try.prog.info? 117).map (·.size) = some 2 := by kernel_rfl
theorem lies117 : liesAt Try.prog Try.prog.depth 117 (2 / Try.prog.cellsOf 117) 0 117 1 = true := by kernel_rfl

set_option maxHeartbeats 1000000 in
set_option maxRecDepth 100000 in
theorem copyCheck0 {w : World} {b : Nat} (h0 : w.cell? ⟨b, 0, none⟩ = some (.pointer none)) (hsh : w.shape? b = some (117, 2)) (hfz : w.frozen? ⟨b, 0, none⟩ = false) :
    Calls Try.prog 117 #[.pointer (some ⟨b, 0, none⟩)] w fun e w' => e = .returned (.tuple #[]) ∧ w' = w.setCell ⟨b, 0, none⟩ (.pointer (some ⟨b, 0, none⟩)) := by
  obtain ⟨j, hj, hjs⟩ := Option.map_eq_some_iff.1 size117
  go_enter Try.func117, Try.ntmps117
  go_wp2
  rw [Lib.run_to_unsafe w ⟨b, 0, none⟩ Try.underlying115 Try.underlying174 hj (by rw [hjs]; decide) hsh (Nat.zero_lt_succ 1)]
  simp only [Result.andThen]
  rw [Oper.upon_value]
  go_wp2
  rw [run_callFunc_extern Try.func137 (by kernel_rfl) (by kernel_rfl) (by kernel_rfl) (e := Extern.AbiNoEscape.same) (by kernel_rfl)]
  rw [Lib.run_noEscape]
  simp only [Result.andThen]
  rw [Oper.upon_value]
  go_wp2
  rw [Lib.run_from_unsafe w ⟨b, 0, none⟩ Try.underlying174 Try.underlying115 hj hsh lies117]
  simp only [Result.andThen]
  rw [Oper.upon_value]
  go_wp2
  go_end0
  exact ⟨rfl, rfl⟩

set_option maxHeartbeats 1000000 in
set_option maxRecDepth 10000 in
theorem grow0 {w : World} {b : Nat} (h0 : w.cell? ⟨b, 0, none⟩ = some (.pointer none)) (h1 : w.cell? ⟨b, 1, none⟩ = some (.slice none 0 0)) (hsh : w.shape? b = some (117, 2)) (hfz : w.frozen? ⟨b, 0, none⟩ = false) :
    Calls Try.prog 76 #[.pointer (some ⟨b, 0, none⟩), .int .i64 0] w fun e w' => e = .returned (.tuple #[]) ∧ w'.cell? ⟨b, 1, none⟩ = some (.slice none 0 0) ∧ Below b w w' ∧ w'.heap.size = w.heap.size := by
  have HC := hide (copyCheck0 h0 hsh hfz)
  have HB : Hid (Below b w (w.setCell ⟨b, 0, none⟩ (.pointer (some ⟨b, 0, none⟩)))) := hide ((Below.refl _ _).setCell (p := ⟨b, 0, none⟩) (Nat.le_refl _) _)
  have h1' : (w.setCell ⟨b, 0, none⟩ (.pointer (some ⟨b, 0, none⟩))).cell? ⟨b, 1, none⟩ = some (.slice none 0 0) := by
    rw [World.cell?_setCell_other _ _ _ _ (by intro e; cases e)]; exact h1
  have HSZ : Hid ((w.setCell ⟨b, 0, none⟩ (.pointer (some ⟨b, 0, none⟩))).heap.size = w.heap.size) := hide (by simp)
  generalize w.setCell ⟨b, 0, none⟩ (.pointer (some ⟨b, 0, none⟩)) = w2 at HC HB h1' HSZ
  clear h0 h1 hsh hfz
  go_enter Try.func76, Try.ntmps76
  go_wp2_with (go_at_call 117; refine (unhide HC).mono ?_; rintro e w' ⟨rfl, hw⟩; subst hw)
  go_quiet (fail)
  go_wp2
  go_end0
  exact ⟨rfl, by simpa using h1', below_drewN' (unhide HB) _, by simpa using unhide HSZ⟩

set_option maxHeartbeats 1000000 in
theorem string0 {w : World} {bb : Nat} (h1 : w.cell? ⟨bb, 1, none⟩ = some (.slice none 0 0)) :
    Calls Try.prog 78 #[.pointer (some ⟨bb, 0, none⟩)] w fun e w' => e = .returned (.string ⟨#[]⟩) ∧ Below w.heap.size w w' := by
  have u1 := fun W ts ty => Go.Lib.run_unsafeSliceData_nil (P := Try.prog) W ts ty 0 0
  have u2 := fun W pt it ty => Go.Lib.run_unsafeString_none (P := Try.prog) W pt it ty none
  go_enter Try.func78, Try.ntmps78
  go_wp2
  go_quiet (fail)
  go_wp2
  go_ret
  exact ⟨rfl, below_drewN' (Below.refl _ _) _⟩

theorem put0 (d : Int) (b : Nat) (w : World) : Calls Try.prog 112 #[.int .i64 (-1), .int .i64 d, .pointer (some ⟨b, 0, none⟩)] w fun e w' => e = .returned (.tuple #[]) ∧ w = w' := by
  go_enter Try.func112, Try.ntmps112
  go_wp2
  go_end0
  exact ⟨rfl, rfl⟩
theorem empty0 {b : Nat} {w : World} (h : w.cell? ⟨b, 0, none⟩ = some (.slice none 0 0)) : Calls Try.prog 114 #[.pointer (some ⟨b, 0, none⟩)] w fun e w' => e = .returned (.bool true) ∧ w = w' := by
  go_enter Try.func114, Try.ntmps114
  go_wp2
  go_ret
  exact ⟨rfl, rfl⟩

set_option maxHeartbeats 1000000 in
set_option maxRecDepth 10000 in
theorem eachLine0 (a : Value) (f : Value) (w : World) :
    Calls Try.prog 73 #[a, .int .i64 (-1), f] w fun e w' => e = .returned (.tuple #[]) ∧ Below w.heap.size w w' := by
  have HB := hide ((Below.refl _ w).alloc (Nat.le_refl _) (.cells #[.slice none 0 0] 149))
  have HE := hide (empty0 (b := w.heap.size) (w := w.alloc (.cells #[.slice none 0 0] 149)) (by simp))
  go_enter Try.func73, Try.ntmps73
  go_wp2_with (go_at_call 112; refine (put0 _ _ _).mono ?_; rintro e w' ⟨rfl, rfl⟩)
  go_loopg [8, 9, 10, 11, 12] 0 (fun _ _ _ _ _ _ wx => w.alloc (.cells #[.slice none 0 0] 149) = wx)
  case atStart => rfl
  case round =>
    subst hrel
    go_wp2_with (go_at_call 114; refine (unhide HE).mono ?_; rintro e w' ⟨rfl, rfl⟩)
    go_end0
    exact ⟨rfl, unhide HB⟩

theorem lineWriter0 (b : Nat) (w : World) : Calls Try.prog 77 #[.pointer (some ⟨b, 0, none⟩)] w fun e w' => (∃ f, e = .returned f) ∧ Below w.heap.size w w' := by
  have HB := hide (fun o o' => ((Below.refl _ w).alloc (Nat.le_refl _) o).alloc (by simp) o')
  go_enter Try.func77, Try.ntmps77
  go_wp2
  go_ret
  exact ⟨⟨_, rfl⟩, (unhide HB) _ _⟩
theorem shape_new (w : World) : (w.alloc (.cells #[.pointer none, .slice none 0 0] 117)).shape? w.heap.size = some (117, 2) := by
  unfold World.shape?; rw [heap_alloc_new]; rfl
theorem free_new (w : World) : (w.alloc (.cells #[.pointer none, .slice none 0 0] 117)).frozen? ⟨w.heap.size, 0, none⟩ = false := by
  unfold World.frozen?; simp only [heap_alloc_new]; rfl

theorem keep_cell {w w' : World} {B k j : Nat} {v : Value} (hb : Below B w w') (hk : k < B) (h : w.cell? ⟨k, j, none⟩ = some v) : w'.cell? ⟨k, j, none⟩ = some v := (hb.cell (p := ⟨k, j, none⟩) hk).trans h

set_option maxHeartbeats 2000000 in
set_option maxRecDepth 10000 in
theorem show0 {w : World} {base bA : Nat} {ns : List NodeM} {F : Nat → Prop} (h : ArS w base bA ns F) {i : Nat} {n : NodeM} (hi : ns[i]? = some n) (hf : n.first = -1) :
    Calls Try.prog 28 #[.pointer (some ⟨bA, 0, none⟩), .int .i64 i] w fun e w' => e = .returned (.tuple #[.string ⟨#[]⟩, .int .i64 0]) ∧ Below w.heap.size w w' := by
  have HN := hide (nodeA h (Below.refl _ w) hi)
  rw [hf] at HN
  clear h hi hf
  go_enter Try.func28, Try.ntmps28
  go_wp2_with (first
    | (go_at_call 18; refine (unhide HN).mono ?_; rintro e w1 ⟨a, c, rfl, hat, hb1⟩; have HB1 := hide hb1; clear hat hb1)
    | (go_at_call 76; refine (grow0 (by simp) (by simp) (shape_new _) (free_new _)).mono ?_; rintro e w3 ⟨rfl, hc3, hb3, hz3⟩; have k73 := keep_cell hb3 hs0 ((World.cell?_alloc_past _ _ _ hs0).trans k7); have HB3 := hide (hb3.mono (Nat.le_of_lt hs0)); have hz3' : w2.heap.size < w3.heap.size := (by simp at hz3; omega); clear hb3 hz3)
    | (go_at_call 73; refine (eachLine0 _ _ _).mono ?_; rintro e w2 ⟨rfl, hb2⟩; have HB2 := hide hb2; have hz2 := hb2.size; have hs1 : w1.heap.size + 1 < w2.heap.size := (by simp at hz2; omega); have hs0 : w1.heap.size < w2.heap.size := (by omega); have k7 := keep_cell (k := w1.heap.size) (j := 7) (v := .int .i64 (-1)) hb2 (by simp; omega) (by simp); have k0 := keep_cell (k := w1.heap.size + 1) (j := 0) (v := .int .i64 0) hb2 (by simp) (by simp); clear hb2 hz2))
  have hs3 : w1.heap.size < w3.heap.size := Nat.lt_trans hs0 hz3'
  go_region_with (first
    | (go_at_call 77; refine (lineWriter0 _ _).mono ?_; rintro e w4 ⟨⟨fv, rfl⟩, hb4⟩; have k74 := keep_cell (k := w1.heap.size) (j := 7) (v := .int .i64 (-1)) hb4 (by simpa using hs3) (by simpa using k73); have hc4 := keep_cell (k := w2.heap.size) (j := 1) (v := .slice none 0 0) hb4 (by simpa using hz3') (by simpa using hc3); have hz4 : w2.heap.size < w4.heap.size := (by have := hb4.size; simp at this; omega); have HB4 : Hid (Below w1.heap.size w3.drew w4) := hide (hb4.mono (by simp; omega)); clear hb4)
    | (go_at_call 73; refine (eachLine0 _ _ _).mono ?_; rintro e w5 ⟨rfl, hb5⟩; have hc5 := keep_cell (k := w2.heap.size) (j := 1) (v := .slice none 0 0) hb5 (by simpa using hz4) (by simpa using hc4); have HB5 : Hid (Below w4.heap.size w4 w5) := hide hb5; clear hb5))
  all_goals go_wp2_with (go_at_call 78; refine (string0 (by simpa using hc5)).mono ?_; rintro e w6 ⟨rfl, hb6⟩; have HB6 := hide hb6; clear hb6)
  all_goals go_ret2
  all_goals
    have hA : Below w1.heap.size w1 w2 := (((Below.refl _ w1).alloc (Nat.le_refl _) _).alloc (by simp) _).trans ((unhide HB2).mono (by simp; omega))
    have hB : Below w1.heap.size w1 w3 := (hA.alloc (Nat.le_of_lt hs0) _).trans (unhide HB3)
    have hC := hB.drew.trans (unhide HB4)
    have hD := hC.trans ((unhide HB5).mono hC.size)
    have hE := hD.trans ((unhide HB6).mono hD.size)
    exact ⟨rfl, (unhide HB1).trans (hE.mono (unhide HB1).size)⟩
end Go.Proofs.Ytlbkoafeedlfaaa
