/-
  What the calls of package node tell of a node and its children, plain and by name; the test of a child.
-/
import Derived.Test.YtlbkoafeedlfaaaOpen
import Derived.Deep.LoopGhost
import Derived.Deep.QuietTactic
import Derived.BigQuiet
namespace Go.Proofs.Ytlbkoafeedlfaaa
open Go.RowKit

theorem PathOf.one {f : Nat → Option Int} : ∀ {l l' : List Nat} {k : Int}, PathOf f k l → PathOf f k l' → l = l'
  | [], [], _, _, _ => rfl
  | [], i :: r, k, h, h' => by
    have h0 : k = -1 := h
    have h1 : k = (i : Int) := h'.1
    omega
  | i :: r, [], k, h, h' => by
    have h0 : k = -1 := h'
    have h1 : k = (i : Int) := h.1
    omega
  | i :: r, i' :: r', k, h, h' => by
    obtain ⟨e, m, hm, hr⟩ := h
    obtain ⟨e', m', hm', hr'⟩ := h'
    obtain rfl : i = i' := by omega
    rw [hm] at hm'
    cases hm'
    rw [PathOf.one hr hr']

theorem PathOf.tail {f : Nat → Option Int} {x : Int} : ∀ {l : List Nat} {k : Int}, PathOf f k l → inPath l x = true → ∃ t, PathOf f x t ∧ t.length ≤ l.length
  | [], _, _, hx => by simp [inPath] at hx
  | i :: r, k, h, hx => by
    by_cases e : (i : Int) = x
    · subst e
      exact ⟨i :: r, ⟨rfl, h.2⟩, Nat.le_refl _⟩
    · obtain ⟨_, m, hm, hr⟩ := h
      have hx' : inPath r x = true := by simpa [inPath, e] using hx
      obtain ⟨t, ht, hl⟩ := PathOf.tail hr hx'
      exact ⟨t, ht, by simp; omega⟩

section
variable {ns : List NodeM} {os : List OneM}

/-- No node is above its parent. -/
theorem Sim.notAbove {i : Nat} {o : OneM} (ho : os[i]? = some o) (hu : o.up ≠ -1) : aboveO os o.up i = false := by
  rw [aboveO_eq]
  rw [Bool.and_eq_false_iff]
  right
  rw [decide_eq_false_iff_not]
  rintro ⟨path, hp, hx⟩
  obtain ⟨t, ht, hl⟩ := PathOf.tail hp hx
  have h2 : PathOf (upO os) (i : Int) (i :: path) := ⟨rfl, o.up, by simp [upO, ho, hu], hp⟩
  have := PathOf.one ht h2
  rw [this] at hl
  simp at hl
  omega

/-- What Node tells of a node's own ends. -/
theorem Sim.ends' (hs : Sim ns os) {i : Nat} {n : NodeM} {o : OneM} (hn : ns[i]? = some n) (ho : os[i]? = some o) : n.first = headI o.kids ∧ n.last = lastI o.kids ∧ n.parent = o.up := by
  have e := hs.tell hn ho
  refine ⟨?_, ?_, ?_⟩
  · rw [e]; rfl
  · rw [e]; rfl
  · rw [e]; rfl

/-- What Node tells of the k-th child. -/
theorem Sim.child (hs : Sim ns os) {i : Nat} {o : OneM} (ho : os[i]? = some o) {k c : Nat} (hk : o.kids[k]? = some c) :
    ∃ m, ns[c]? = some m ∧ m.parent = (i : Int) ∧ m.prev = lastI (o.kids.take k) ∧ m.next = headI (o.kids.drop (k + 1)) := by
  have hlt : k < o.kids.length := (List.getElem?_eq_some_iff.1 hk).1
  have hc : o.kids[k] = c := (List.getElem?_eq_some_iff.1 hk).2
  obtain ⟨oc, hoc, hup⟩ := hs.down i o c ho (List.mem_of_getElem? hk)
  obtain ⟨m, hm, sm⟩ := hs.get hoc
  have hK := hs.kids i o ho
  have e : o.kids = o.kids.take k ++ c :: o.kids.drop (k + 1) := by
    have := List.take_append_drop k o.kids
    rw [List.drop_eq_getElem_cons hlt, hc] at this
    exact this.symm
  have hK' := hK
  rw [e] at hK'
  obtain ⟨h1, h2⟩ := hK'.nbrs hm
  exact ⟨m, hm, by rw [(hs.ends' hm hoc).2.2, hup], h1, h2⟩

theorem lastI_take {l : List Nat} {k c : Nat} (hk : l[k]? = some c) : lastI (l.take (k + 1)) = c := by
  have hlt : k < l.length := (List.getElem?_eq_some_iff.1 hk).1
  have : (l.take (k + 1)).getLast? = some c := by
    rw [List.getLast?_eq_getElem?, List.length_take, Nat.min_eq_left (by omega)]
    simp [hk]
  simp [lastI, this]

theorem headI_end {l : List Nat} {k : Nat} (h : l.length ≤ k) : headI (l.drop k) = -1 := by rw [List.drop_eq_nil_of_le h]; rfl
theorem lastI_end {l : List Nat} {k c : Nat} (hk : l[k]? = some c) (h : k + 1 = l.length) : lastI l = c := by
  have := lastI_take hk
  rwa [h, List.take_length] at this
end
end Go.Proofs.Ytlbkoafeedlfaaa

namespace Go.Proofs.Ytlbkoafeedlfaaa
open Go.RowKit

theorem node_plain {w : World} {base bA : Nat} {ns : List NodeM} {F : Nat → Prop} (h : ArS w base bA ns F) (i : Nat) (n : NodeM) (hi : ns[i]? = some n) :
    Calls Try.prog 18 #[.pointer (some ⟨bA, 0, none⟩), .int .i64 i] w fun e w' => ∃ (ao : Option Addr) (q cp : Nat), e = .returned (.tuple #[.agg #[.int .i64 n.kind, .int .i64 n.space, .string n.name, .slice ao q cp, .string n.data, .string n.system, .int .i64 n.parent, .int .i64 n.first, .int .i64 n.last, .int .i64 n.prev, .int .i64 n.next, .int .i64 n.inner], .int .i64 0]) ∧ Below w.heap.size w w' :=
  (node_in h i n hi).mono fun _ _ ⟨ao, cp, h1, _, h2, _⟩ => ⟨ao, _, cp, h1, h2⟩

theorem kids_plain {w : World} {base bA : Nat} {ns : List NodeM} {os : List OneM} {F : Nat → Prop} (ha : ArS w base bA ns F) (hs : Sim ns os) (i : Nat) (o : OneM) (ho : os[i]? = some o) :
    Calls Try.prog 19 #[.pointer (some ⟨bA, 0, none⟩), .int .i64 i] w fun e w' => ∃ (a : Option Addr) (cp : Nat), e = .returned (.slice a o.kids.length cp) ∧ IntsIn w' a o.kids ∧ Below w.heap.size w w' := by
  have e1 : kidsO os i = o.kids := by simp [kidsO, hasO_of ho, ho]
  refine (kids_sim ha hs i).mono fun e w' ⟨v, h1, h2, h3⟩ => ?_
  rw [e1] at h2
  obtain ⟨a, c, rfl, hin, _⟩ := ownsRow_ints h2
  exact ⟨a, c, h1, hin, h3⟩

theorem lenS_any {w : World} {base bA : Nat} {ns : List NodeM} {F : Nat → Prop} (h : ArS w base bA ns F) : Calls Try.prog 17 #[.pointer (some ⟨bA, 0, none⟩)] w fun e w' => e = .returned (.int .i64 ns.length) ∧ w = w' := by
  obtain ⟨bS, g, cap, h, _⟩ := h
  exact len_any h

theorem headI_at {l : List Nat} {c : Nat} (h : l[0]? = some c) : headI l = c := by
  cases l with
  | nil => simp at h
  | cons x r => simp at h; subst h; rfl

theorem kids_ends {n : NodeM} {ks : List Nat} (m : Nat) (hm : m = ks.length) (h1 : n.first = headI ks) (h2 : n.last = lastI ks) : ((m : Int) = 0 ∧ n.first = -1 ∧ n.last = -1) ∨ (¬ (m : Int) = 0 ∧ ¬ n.first = -1 ∧ ¬ n.last = -1) := by
  cases ks with
  | nil => exact .inl ⟨by simp at hm; omega, h1, h2⟩
  | cons x r =>
    refine .inr ⟨by simp at hm; omega, ?_, ?_⟩
    · rw [h1]; show ¬ ((x : Nat) : Int) = -1; omega
    · obtain ⟨y, hy⟩ : ∃ y, (x :: r).getLast? = some y := ⟨_, List.getLast?_eq_some_getLast (by simp)⟩
      rw [h2, lastI, hy]; show ¬ ((y : Nat) : Int) = -1; omega
end Go.Proofs.Ytlbkoafeedlfaaa

namespace Go.Proofs.Ytlbkoafeedlfaaa
open Go.RowKit
set_option linter.unusedVariables false

def reg? (id : Nat) : Code → Option Code
  | .region i ops d => if i = id then some (.region i ops d) else none
  | .seq a b => match reg? id a with
    | some c => some c
    | none => reg? id b
  | .cond _ a b => match reg? id a with
    | some c => some c
    | none => reg? id b
  | .block _ c => reg? id c
  | .loop c => reg? id c
  | .scope c => reg? id c
  | _ => none

def links20 (f : Func) : Code := (f.body.bind (reg? 20)).getD .skip

set_option maxHeartbeats 1000000 in
set_option maxRecDepth 10000 in
theorem child_only {u0 u1 u2 u3 u4 u5 u8 u13 u14 u15 u16 u17 u18 u19 u20 u21 u22 u23 u24 u25 u26 u27 u28 u29 u30 u31 u32 u33 u34 u35 u36 u37 u38 u39 u40 u41 u42 u43 u44 u45 u46 u47 u48 u49 u50 u51 u52 u53 u54 u55 u56 u57 u58 u59 u60 u61 u62 u63 u64 u65 u66 u67 u68 u69 u70 u71 u72 u73 u74 u75 u76 u77 u78 u79 u80 u81 u82 u83 u84 u85 u86 u87 u88 u89 u90 u91 u92 u93 u94 u95 u96 u97 u98 u99 u100 u101 u102 u103 u104 u105 u106 u107 u108 u109 u110 u111 u112 u113 u114 u115 u116 u117 u118 u119 u120 u121 u122 u123 u124 u125 u126 u127 u128 u129 u130 u131 u132 u133 u134 u135 u136 u137 u138 u139 u140 u141 u142 u143 u144 u145 u146 u147 u148 u149 u150 u151 u152 u153 u154 u155 u156 u157 : Value} {i c pv nx : Int} {bn kb koff kc bc m p : Nat} {w : World} {Q : Exit → Act → World → Prop}
    (c6 : w.cell? ⟨bc, 6, none⟩ = some (.int .i64 i)) (c9 : w.cell? ⟨bc, 9, none⟩ = some (.int .i64 pv)) (c10 : w.cell? ⟨bc, 10, none⟩ = some (.int .i64 nx)) (hm : m ≤ 32768) (hm1 : m = 1) (hp : pv = -1) (hn : nx = -1) (n7 : w.cell? ⟨bn, 7, none⟩ = some (.int .i64 c)) (n8 : w.cell? ⟨bn, 8, none⟩ = some (.int .i64 c)) (lq : w.cell? ⟨kb, koff, none⟩ = some (.int .i64 c))
    (hQ : ∀ (x96 x97 x98 x99 x100 x101 x102 x103 x104 x105 x106 x107 x108 x109 x110 x111 x112 x113 x114 x115 x116 x117 x118 x119 x120 x121 x122 x123 x124 x125 x126 x127 x128 x129 x130 x131 x132 x133 x134 x135 x136 x137 x138 x139 x140 x141 x142 x143 x144 x145 x146 x147 x148 x149 x150 x151 x152 x153 x154 x155 : Value) (nq : Nat), Q .normal ⟨List.toArray (u0 :: u1 :: u2 :: u3 :: u4 :: u5 :: .int .i64 i :: .pointer (some ⟨bn, 0, none⟩) :: u8 :: .slice (some ⟨kb, koff, none⟩) m kc :: .int .i64 0 :: .pointer (some ⟨bc, 0, none⟩) :: .int .i64 0 :: u13 :: u14 :: u15 :: u16 :: u17 :: u18 :: u19 :: u20 :: u21 :: u22 :: u23 :: u24 :: u25 :: u26 :: u27 :: u28 :: u29 :: u30 :: u31 :: u32 :: u33 :: u34 :: u35 :: u36 :: u37 :: u38 :: u39 :: u40 :: u41 :: u42 :: u43 :: u44 :: u45 :: u46 :: u47 :: u48 :: u49 :: u50 :: u51 :: u52 :: u53 :: u54 :: u55 :: u56 :: u57 :: u58 :: u59 :: u60 :: u61 :: u62 :: u63 :: u64 :: u65 :: u66 :: u67 :: u68 :: u69 :: u70 :: u71 :: u72 :: u73 :: u74 :: u75 :: u76 :: u77 :: u78 :: u79 :: u80 :: u81 :: u82 :: u83 :: u84 :: u85 :: u86 :: u87 :: u88 :: u89 :: u90 :: u91 :: u92 :: u93 :: u94 :: u95 :: x96 :: x97 :: x98 :: x99 :: x100 :: x101 :: x102 :: x103 :: x104 :: x105 :: x106 :: x107 :: x108 :: x109 :: x110 :: x111 :: x112 :: x113 :: x114 :: x115 :: x116 :: x117 :: x118 :: x119 :: x120 :: x121 :: x122 :: x123 :: x124 :: x125 :: x126 :: x127 :: x128 :: x129 :: x130 :: x131 :: x132 :: x133 :: x134 :: x135 :: x136 :: x137 :: x138 :: x139 :: x140 :: x141 :: x142 :: x143 :: x144 :: x145 :: x146 :: x147 :: x148 :: x149 :: x150 :: x151 :: x152 :: x153 :: x154 :: x155 :: .bool false :: u157 :: []), []⟩ (w.drewN nq)) :
    Code.wp Try.prog (links20 Try.f4) Q ⟨List.toArray (u0 :: u1 :: u2 :: u3 :: u4 :: u5 :: .int .i64 i :: .pointer (some ⟨bn, 0, none⟩) :: u8 :: .slice (some ⟨kb, koff, none⟩) m kc :: .int .i64 0 :: .pointer (some ⟨bc, 0, none⟩) :: .int .i64 0 :: u13 :: u14 :: u15 :: u16 :: u17 :: u18 :: u19 :: u20 :: u21 :: u22 :: u23 :: u24 :: u25 :: u26 :: u27 :: u28 :: u29 :: u30 :: u31 :: u32 :: u33 :: u34 :: u35 :: u36 :: u37 :: u38 :: u39 :: u40 :: u41 :: u42 :: u43 :: u44 :: u45 :: u46 :: u47 :: u48 :: u49 :: u50 :: u51 :: u52 :: u53 :: u54 :: u55 :: u56 :: u57 :: u58 :: u59 :: u60 :: u61 :: u62 :: u63 :: u64 :: u65 :: u66 :: u67 :: u68 :: u69 :: u70 :: u71 :: u72 :: u73 :: u74 :: u75 :: u76 :: u77 :: u78 :: u79 :: u80 :: u81 :: u82 :: u83 :: u84 :: u85 :: u86 :: u87 :: u88 :: u89 :: u90 :: u91 :: u92 :: u93 :: u94 :: u95 :: u96 :: u97 :: u98 :: u99 :: u100 :: u101 :: u102 :: u103 :: u104 :: u105 :: u106 :: u107 :: u108 :: u109 :: u110 :: u111 :: u112 :: u113 :: u114 :: u115 :: u116 :: u117 :: u118 :: u119 :: u120 :: u121 :: u122 :: u123 :: u124 :: u125 :: u126 :: u127 :: u128 :: u129 :: u130 :: u131 :: u132 :: u133 :: u134 :: u135 :: u136 :: u137 :: u138 :: u139 :: u140 :: u141 :: u142 :: u143 :: u144 :: u145 :: u146 :: u147 :: u148 :: u149 :: u150 :: u151 :: u152 :: u153 :: u154 :: u155 :: u156 :: u157 :: []), []⟩ w := by
  have HQ := hide hQ
  clear hQ
  subst hm1 hp hn
  conv => arg 2; whnf
  refine wp_region_quiet_lit (by kernel_rfl) (by kernel_rfl) ?_
  repeat (go_big_quiet_step (fail))
  refine wpQuiet_nil ?_
  intro _ hw'
  obtain ⟨nq, hw''⟩ := hw'
  subst hw''
  exact (unhide HQ) _ _ _ _ _ _ _ _ _ _ _ _ _ _ _ _ _ _ _ _ _ _ _ _ _ _ _ _ _ _ _ _ _ _ _ _ _ _ _ _ _ _ _ _ _ _ _ _ _ _ _ _ _ _ _ _ _ _ _ _ _

set_option maxHeartbeats 1000000 in
set_option maxRecDepth 10000 in
theorem child_first {u0 u1 u2 u3 u4 u5 u8 u13 u14 u15 u16 u17 u18 u19 u20 u21 u22 u23 u24 u25 u26 u27 u28 u29 u30 u31 u32 u33 u34 u35 u36 u37 u38 u39 u40 u41 u42 u43 u44 u45 u46 u47 u48 u49 u50 u51 u52 u53 u54 u55 u56 u57 u58 u59 u60 u61 u62 u63 u64 u65 u66 u67 u68 u69 u70 u71 u72 u73 u74 u75 u76 u77 u78 u79 u80 u81 u82 u83 u84 u85 u86 u87 u88 u89 u90 u91 u92 u93 u94 u95 u96 u97 u98 u99 u100 u101 u102 u103 u104 u105 u106 u107 u108 u109 u110 u111 u112 u113 u114 u115 u116 u117 u118 u119 u120 u121 u122 u123 u124 u125 u126 u127 u128 u129 u130 u131 u132 u133 u134 u135 u136 u137 u138 u139 u140 u141 u142 u143 u144 u145 u146 u147 u148 u149 u150 u151 u152 u153 u154 u155 u156 u157 : Value} {i c pv nx : Int} {bn kb koff kc bc m p : Nat} {w : World} {Q : Exit → Act → World → Prop}
    (c6 : w.cell? ⟨bc, 6, none⟩ = some (.int .i64 i)) (c9 : w.cell? ⟨bc, 9, none⟩ = some (.int .i64 pv)) (c10 : w.cell? ⟨bc, 10, none⟩ = some (.int .i64 nx)) (hm : m ≤ 32768) (hm1 : 1 < m) (hp : pv = -1) (n7 : w.cell? ⟨bn, 7, none⟩ = some (.int .i64 c)) (lq : w.cell? ⟨kb, koff, none⟩ = some (.int .i64 c))
    (hQ : ∀ (x96 x97 x98 x99 x100 x101 x102 x103 x104 x105 x106 x107 x108 x109 x110 x111 x112 x113 x114 x115 x116 x117 x118 x119 x120 x121 x122 x123 x124 x125 x126 x127 x128 x129 x130 x131 x132 x133 x134 x135 x136 x137 x138 x139 x140 x141 x142 x143 x144 x145 x146 x147 x148 x149 x150 x151 x152 x153 x154 x155 : Value) (nq : Nat), Q .normal ⟨List.toArray (u0 :: u1 :: u2 :: u3 :: u4 :: u5 :: .int .i64 i :: .pointer (some ⟨bn, 0, none⟩) :: u8 :: .slice (some ⟨kb, koff, none⟩) m kc :: .int .i64 0 :: .pointer (some ⟨bc, 0, none⟩) :: .int .i64 0 :: u13 :: u14 :: u15 :: u16 :: u17 :: u18 :: u19 :: u20 :: u21 :: u22 :: u23 :: u24 :: u25 :: u26 :: u27 :: u28 :: u29 :: u30 :: u31 :: u32 :: u33 :: u34 :: u35 :: u36 :: u37 :: u38 :: u39 :: u40 :: u41 :: u42 :: u43 :: u44 :: u45 :: u46 :: u47 :: u48 :: u49 :: u50 :: u51 :: u52 :: u53 :: u54 :: u55 :: u56 :: u57 :: u58 :: u59 :: u60 :: u61 :: u62 :: u63 :: u64 :: u65 :: u66 :: u67 :: u68 :: u69 :: u70 :: u71 :: u72 :: u73 :: u74 :: u75 :: u76 :: u77 :: u78 :: u79 :: u80 :: u81 :: u82 :: u83 :: u84 :: u85 :: u86 :: u87 :: u88 :: u89 :: u90 :: u91 :: u92 :: u93 :: u94 :: u95 :: x96 :: x97 :: x98 :: x99 :: x100 :: x101 :: x102 :: x103 :: x104 :: x105 :: x106 :: x107 :: x108 :: x109 :: x110 :: x111 :: x112 :: x113 :: x114 :: x115 :: x116 :: x117 :: x118 :: x119 :: x120 :: x121 :: x122 :: x123 :: x124 :: x125 :: x126 :: x127 :: x128 :: x129 :: x130 :: x131 :: x132 :: x133 :: x134 :: x135 :: x136 :: x137 :: x138 :: x139 :: x140 :: x141 :: x142 :: x143 :: x144 :: x145 :: x146 :: x147 :: x148 :: x149 :: x150 :: x151 :: x152 :: x153 :: x154 :: x155 :: .bool false :: u157 :: []), []⟩ (w.drewN nq)) :
    Code.wp Try.prog (links20 Try.f4) Q ⟨List.toArray (u0 :: u1 :: u2 :: u3 :: u4 :: u5 :: .int .i64 i :: .pointer (some ⟨bn, 0, none⟩) :: u8 :: .slice (some ⟨kb, koff, none⟩) m kc :: .int .i64 0 :: .pointer (some ⟨bc, 0, none⟩) :: .int .i64 0 :: u13 :: u14 :: u15 :: u16 :: u17 :: u18 :: u19 :: u20 :: u21 :: u22 :: u23 :: u24 :: u25 :: u26 :: u27 :: u28 :: u29 :: u30 :: u31 :: u32 :: u33 :: u34 :: u35 :: u36 :: u37 :: u38 :: u39 :: u40 :: u41 :: u42 :: u43 :: u44 :: u45 :: u46 :: u47 :: u48 :: u49 :: u50 :: u51 :: u52 :: u53 :: u54 :: u55 :: u56 :: u57 :: u58 :: u59 :: u60 :: u61 :: u62 :: u63 :: u64 :: u65 :: u66 :: u67 :: u68 :: u69 :: u70 :: u71 :: u72 :: u73 :: u74 :: u75 :: u76 :: u77 :: u78 :: u79 :: u80 :: u81 :: u82 :: u83 :: u84 :: u85 :: u86 :: u87 :: u88 :: u89 :: u90 :: u91 :: u92 :: u93 :: u94 :: u95 :: u96 :: u97 :: u98 :: u99 :: u100 :: u101 :: u102 :: u103 :: u104 :: u105 :: u106 :: u107 :: u108 :: u109 :: u110 :: u111 :: u112 :: u113 :: u114 :: u115 :: u116 :: u117 :: u118 :: u119 :: u120 :: u121 :: u122 :: u123 :: u124 :: u125 :: u126 :: u127 :: u128 :: u129 :: u130 :: u131 :: u132 :: u133 :: u134 :: u135 :: u136 :: u137 :: u138 :: u139 :: u140 :: u141 :: u142 :: u143 :: u144 :: u145 :: u146 :: u147 :: u148 :: u149 :: u150 :: u151 :: u152 :: u153 :: u154 :: u155 :: u156 :: u157 :: []), []⟩ w := by
  have HQ := hide hQ
  clear hQ
  subst hp
  have e1 : ¬ (0 : Int) = (m : Int) - 1 := by omega
  have e2 : ((0 : Int) == (m : Int) - 1) = false := by simpa using e1
  have e3 : decide ((0 : Int) = (m : Int) - 1) = false := by simpa using e1
  have e4 : (1 : Int) < (m : Int) := by omega
  have e5 : (m : Int) ≤ 32768 := by omega
  conv => arg 2; whnf
  refine wp_region_quiet_lit (by kernel_rfl) (by kernel_rfl) ?_
  repeat (go_big_quiet_step (fail))
  refine wpQuiet_nil ?_
  intro _ hw'
  obtain ⟨nq, hw''⟩ := hw'
  subst hw''
  exact (unhide HQ) _ _ _ _ _ _ _ _ _ _ _ _ _ _ _ _ _ _ _ _ _ _ _ _ _ _ _ _ _ _ _ _ _ _ _ _ _ _ _ _ _ _ _ _ _ _ _ _ _ _ _ _ _ _ _ _ _ _ _ _ _

set_option maxHeartbeats 1000000 in
set_option maxRecDepth 10000 in
theorem child_mid {u0 u1 u2 u3 u4 u5 u8 u13 u14 u15 u16 u17 u18 u19 u20 u21 u22 u23 u24 u25 u26 u27 u28 u29 u30 u31 u32 u33 u34 u35 u36 u37 u38 u39 u40 u41 u42 u43 u44 u45 u46 u47 u48 u49 u50 u51 u52 u53 u54 u55 u56 u57 u58 u59 u60 u61 u62 u63 u64 u65 u66 u67 u68 u69 u70 u71 u72 u73 u74 u75 u76 u77 u78 u79 u80 u81 u82 u83 u84 u85 u86 u87 u88 u89 u90 u91 u92 u93 u94 u95 u96 u97 u98 u99 u100 u101 u102 u103 u104 u105 u106 u107 u108 u109 u110 u111 u112 u113 u114 u115 u116 u117 u118 u119 u120 u121 u122 u123 u124 u125 u126 u127 u128 u129 u130 u131 u132 u133 u134 u135 u136 u137 u138 u139 u140 u141 u142 u143 u144 u145 u146 u147 u148 u149 u150 u151 u152 u153 u154 u155 u156 u157 : Value} {i c pv nx : Int} {bn kb koff kc bc m p : Nat} {w : World} {Q : Exit → Act → World → Prop}
    (c6 : w.cell? ⟨bc, 6, none⟩ = some (.int .i64 i)) (c9 : w.cell? ⟨bc, 9, none⟩ = some (.int .i64 pv)) (c10 : w.cell? ⟨bc, 10, none⟩ = some (.int .i64 nx)) (hm : m ≤ 32768) (hm1 : p + 2 < m) (lp : w.cell? ⟨kb, koff + p, none⟩ = some (.int .i64 pv))
    (hQ : ∀ (x96 x97 x98 x99 x100 x101 x102 x103 x104 x105 x106 x107 x108 x109 x110 x111 x112 x113 x114 x115 x116 x117 x118 x119 x120 x121 x122 x123 x124 x125 x126 x127 x128 x129 x130 x131 x132 x133 x134 x135 x136 x137 x138 x139 x140 x141 x142 x143 x144 x145 x146 x147 x148 x149 x150 x151 x152 x153 x154 x155 : Value) (nq : Nat), Q .normal ⟨List.toArray (u0 :: u1 :: u2 :: u3 :: u4 :: u5 :: .int .i64 i :: .pointer (some ⟨bn, 0, none⟩) :: u8 :: .slice (some ⟨kb, koff, none⟩) m kc :: .int .i64 ((p : Int) + 1) :: .pointer (some ⟨bc, 0, none⟩) :: .int .i64 0 :: u13 :: u14 :: u15 :: u16 :: u17 :: u18 :: u19 :: u20 :: u21 :: u22 :: u23 :: u24 :: u25 :: u26 :: u27 :: u28 :: u29 :: u30 :: u31 :: u32 :: u33 :: u34 :: u35 :: u36 :: u37 :: u38 :: u39 :: u40 :: u41 :: u42 :: u43 :: u44 :: u45 :: u46 :: u47 :: u48 :: u49 :: u50 :: u51 :: u52 :: u53 :: u54 :: u55 :: u56 :: u57 :: u58 :: u59 :: u60 :: u61 :: u62 :: u63 :: u64 :: u65 :: u66 :: u67 :: u68 :: u69 :: u70 :: u71 :: u72 :: u73 :: u74 :: u75 :: u76 :: u77 :: u78 :: u79 :: u80 :: u81 :: u82 :: u83 :: u84 :: u85 :: u86 :: u87 :: u88 :: u89 :: u90 :: u91 :: u92 :: u93 :: u94 :: u95 :: x96 :: x97 :: x98 :: x99 :: x100 :: x101 :: x102 :: x103 :: x104 :: x105 :: x106 :: x107 :: x108 :: x109 :: x110 :: x111 :: x112 :: x113 :: x114 :: x115 :: x116 :: x117 :: x118 :: x119 :: x120 :: x121 :: x122 :: x123 :: x124 :: x125 :: x126 :: x127 :: x128 :: x129 :: x130 :: x131 :: x132 :: x133 :: x134 :: x135 :: x136 :: x137 :: x138 :: x139 :: x140 :: x141 :: x142 :: x143 :: x144 :: x145 :: x146 :: x147 :: x148 :: x149 :: x150 :: x151 :: x152 :: x153 :: x154 :: x155 :: .bool false :: u157 :: []), []⟩ (w.drewN nq)) :
    Code.wp Try.prog (links20 Try.f4) Q ⟨List.toArray (u0 :: u1 :: u2 :: u3 :: u4 :: u5 :: .int .i64 i :: .pointer (some ⟨bn, 0, none⟩) :: u8 :: .slice (some ⟨kb, koff, none⟩) m kc :: .int .i64 ((p : Int) + 1) :: .pointer (some ⟨bc, 0, none⟩) :: .int .i64 0 :: u13 :: u14 :: u15 :: u16 :: u17 :: u18 :: u19 :: u20 :: u21 :: u22 :: u23 :: u24 :: u25 :: u26 :: u27 :: u28 :: u29 :: u30 :: u31 :: u32 :: u33 :: u34 :: u35 :: u36 :: u37 :: u38 :: u39 :: u40 :: u41 :: u42 :: u43 :: u44 :: u45 :: u46 :: u47 :: u48 :: u49 :: u50 :: u51 :: u52 :: u53 :: u54 :: u55 :: u56 :: u57 :: u58 :: u59 :: u60 :: u61 :: u62 :: u63 :: u64 :: u65 :: u66 :: u67 :: u68 :: u69 :: u70 :: u71 :: u72 :: u73 :: u74 :: u75 :: u76 :: u77 :: u78 :: u79 :: u80 :: u81 :: u82 :: u83 :: u84 :: u85 :: u86 :: u87 :: u88 :: u89 :: u90 :: u91 :: u92 :: u93 :: u94 :: u95 :: u96 :: u97 :: u98 :: u99 :: u100 :: u101 :: u102 :: u103 :: u104 :: u105 :: u106 :: u107 :: u108 :: u109 :: u110 :: u111 :: u112 :: u113 :: u114 :: u115 :: u116 :: u117 :: u118 :: u119 :: u120 :: u121 :: u122 :: u123 :: u124 :: u125 :: u126 :: u127 :: u128 :: u129 :: u130 :: u131 :: u132 :: u133 :: u134 :: u135 :: u136 :: u137 :: u138 :: u139 :: u140 :: u141 :: u142 :: u143 :: u144 :: u145 :: u146 :: u147 :: u148 :: u149 :: u150 :: u151 :: u152 :: u153 :: u154 :: u155 :: u156 :: u157 :: []), []⟩ w := by
  have HQ := hide hQ
  clear hQ
  have e0 : ¬ (p : Int) + 1 = 0 := by omega
  have e4 : ((p : Int) + 1 == 0) = false := by simpa using e0
  have e5 : (0 : Int) < (p : Int) + 1 := by omega
  have e6 : (p : Int) < 32768 := by omega
  have e7 : (p : Int) + 1 < (m : Int) := by omega
  have e8 : (m : Int) ≤ 32768 := by omega
  have e1 : ¬ (p : Int) + 1 = (m : Int) - 1 := by omega
  have e2 : ((p : Int) + 1 == (m : Int) - 1) = false := by simpa using e1
  have e3 : decide ((p : Int) + 1 = (m : Int) - 1) = false := by simpa using e1
  conv => arg 2; whnf
  refine wp_region_quiet_lit (by kernel_rfl) (by kernel_rfl) ?_
  repeat (go_big_quiet_step (fail))
  refine wpQuiet_nil ?_
  intro _ hw'
  obtain ⟨nq, hw''⟩ := hw'
  subst hw''
  exact (unhide HQ) _ _ _ _ _ _ _ _ _ _ _ _ _ _ _ _ _ _ _ _ _ _ _ _ _ _ _ _ _ _ _ _ _ _ _ _ _ _ _ _ _ _ _ _ _ _ _ _ _ _ _ _ _ _ _ _ _ _ _ _ _

set_option maxHeartbeats 1000000 in
set_option maxRecDepth 10000 in
theorem child_last {u0 u1 u2 u3 u4 u5 u8 u13 u14 u15 u16 u17 u18 u19 u20 u21 u22 u23 u24 u25 u26 u27 u28 u29 u30 u31 u32 u33 u34 u35 u36 u37 u38 u39 u40 u41 u42 u43 u44 u45 u46 u47 u48 u49 u50 u51 u52 u53 u54 u55 u56 u57 u58 u59 u60 u61 u62 u63 u64 u65 u66 u67 u68 u69 u70 u71 u72 u73 u74 u75 u76 u77 u78 u79 u80 u81 u82 u83 u84 u85 u86 u87 u88 u89 u90 u91 u92 u93 u94 u95 u96 u97 u98 u99 u100 u101 u102 u103 u104 u105 u106 u107 u108 u109 u110 u111 u112 u113 u114 u115 u116 u117 u118 u119 u120 u121 u122 u123 u124 u125 u126 u127 u128 u129 u130 u131 u132 u133 u134 u135 u136 u137 u138 u139 u140 u141 u142 u143 u144 u145 u146 u147 u148 u149 u150 u151 u152 u153 u154 u155 u156 u157 : Value} {i c pv nx : Int} {bn kb koff kc bc m p : Nat} {w : World} {Q : Exit → Act → World → Prop}
    (c6 : w.cell? ⟨bc, 6, none⟩ = some (.int .i64 i)) (c9 : w.cell? ⟨bc, 9, none⟩ = some (.int .i64 pv)) (c10 : w.cell? ⟨bc, 10, none⟩ = some (.int .i64 nx)) (hm : m ≤ 32768) (hm1 : m = p + 2) (hn : nx = -1) (n8 : w.cell? ⟨bn, 8, none⟩ = some (.int .i64 c)) (lq : w.cell? ⟨kb, koff + (p + 1), none⟩ = some (.int .i64 c)) (lp : w.cell? ⟨kb, koff + p, none⟩ = some (.int .i64 pv))
    (hQ : ∀ (x96 x97 x98 x99 x100 x101 x102 x103 x104 x105 x106 x107 x108 x109 x110 x111 x112 x113 x114 x115 x116 x117 x118 x119 x120 x121 x122 x123 x124 x125 x126 x127 x128 x129 x130 x131 x132 x133 x134 x135 x136 x137 x138 x139 x140 x141 x142 x143 x144 x145 x146 x147 x148 x149 x150 x151 x152 x153 x154 x155 : Value) (nq : Nat), Q .normal ⟨List.toArray (u0 :: u1 :: u2 :: u3 :: u4 :: u5 :: .int .i64 i :: .pointer (some ⟨bn, 0, none⟩) :: u8 :: .slice (some ⟨kb, koff, none⟩) m kc :: .int .i64 ((p : Int) + 1) :: .pointer (some ⟨bc, 0, none⟩) :: .int .i64 0 :: u13 :: u14 :: u15 :: u16 :: u17 :: u18 :: u19 :: u20 :: u21 :: u22 :: u23 :: u24 :: u25 :: u26 :: u27 :: u28 :: u29 :: u30 :: u31 :: u32 :: u33 :: u34 :: u35 :: u36 :: u37 :: u38 :: u39 :: u40 :: u41 :: u42 :: u43 :: u44 :: u45 :: u46 :: u47 :: u48 :: u49 :: u50 :: u51 :: u52 :: u53 :: u54 :: u55 :: u56 :: u57 :: u58 :: u59 :: u60 :: u61 :: u62 :: u63 :: u64 :: u65 :: u66 :: u67 :: u68 :: u69 :: u70 :: u71 :: u72 :: u73 :: u74 :: u75 :: u76 :: u77 :: u78 :: u79 :: u80 :: u81 :: u82 :: u83 :: u84 :: u85 :: u86 :: u87 :: u88 :: u89 :: u90 :: u91 :: u92 :: u93 :: u94 :: u95 :: x96 :: x97 :: x98 :: x99 :: x100 :: x101 :: x102 :: x103 :: x104 :: x105 :: x106 :: x107 :: x108 :: x109 :: x110 :: x111 :: x112 :: x113 :: x114 :: x115 :: x116 :: x117 :: x118 :: x119 :: x120 :: x121 :: x122 :: x123 :: x124 :: x125 :: x126 :: x127 :: x128 :: x129 :: x130 :: x131 :: x132 :: x133 :: x134 :: x135 :: x136 :: x137 :: x138 :: x139 :: x140 :: x141 :: x142 :: x143 :: x144 :: x145 :: x146 :: x147 :: x148 :: x149 :: x150 :: x151 :: x152 :: x153 :: x154 :: x155 :: .bool false :: u157 :: []), []⟩ (w.drewN nq)) :
    Code.wp Try.prog (links20 Try.f4) Q ⟨List.toArray (u0 :: u1 :: u2 :: u3 :: u4 :: u5 :: .int .i64 i :: .pointer (some ⟨bn, 0, none⟩) :: u8 :: .slice (some ⟨kb, koff, none⟩) m kc :: .int .i64 ((p : Int) + 1) :: .pointer (some ⟨bc, 0, none⟩) :: .int .i64 0 :: u13 :: u14 :: u15 :: u16 :: u17 :: u18 :: u19 :: u20 :: u21 :: u22 :: u23 :: u24 :: u25 :: u26 :: u27 :: u28 :: u29 :: u30 :: u31 :: u32 :: u33 :: u34 :: u35 :: u36 :: u37 :: u38 :: u39 :: u40 :: u41 :: u42 :: u43 :: u44 :: u45 :: u46 :: u47 :: u48 :: u49 :: u50 :: u51 :: u52 :: u53 :: u54 :: u55 :: u56 :: u57 :: u58 :: u59 :: u60 :: u61 :: u62 :: u63 :: u64 :: u65 :: u66 :: u67 :: u68 :: u69 :: u70 :: u71 :: u72 :: u73 :: u74 :: u75 :: u76 :: u77 :: u78 :: u79 :: u80 :: u81 :: u82 :: u83 :: u84 :: u85 :: u86 :: u87 :: u88 :: u89 :: u90 :: u91 :: u92 :: u93 :: u94 :: u95 :: u96 :: u97 :: u98 :: u99 :: u100 :: u101 :: u102 :: u103 :: u104 :: u105 :: u106 :: u107 :: u108 :: u109 :: u110 :: u111 :: u112 :: u113 :: u114 :: u115 :: u116 :: u117 :: u118 :: u119 :: u120 :: u121 :: u122 :: u123 :: u124 :: u125 :: u126 :: u127 :: u128 :: u129 :: u130 :: u131 :: u132 :: u133 :: u134 :: u135 :: u136 :: u137 :: u138 :: u139 :: u140 :: u141 :: u142 :: u143 :: u144 :: u145 :: u146 :: u147 :: u148 :: u149 :: u150 :: u151 :: u152 :: u153 :: u154 :: u155 :: u156 :: u157 :: []), []⟩ w := by
  have HQ := hide hQ
  clear hQ
  subst hn
  have e0 : ¬ (p : Int) + 1 = 0 := by omega
  have e4 : ((p : Int) + 1 == 0) = false := by simpa using e0
  have e5 : (0 : Int) < (p : Int) + 1 := by omega
  have e6 : (p : Int) < 32768 := by omega
  have e7 : (p : Int) + 1 < (m : Int) := by omega
  have e8 : (m : Int) ≤ 32768 := by omega
  have e1 : (p : Int) + 1 = (m : Int) - 1 := by omega
  have e2 : ((p : Int) + 1 == (m : Int) - 1) = true := by simpa using e1
  have e3 : decide ((p : Int) + 1 = (m : Int) - 1) = true := by simpa using e1
  clear hm1 e1
  conv => arg 2; whnf
  refine wp_region_quiet_lit (by kernel_rfl) (by kernel_rfl) ?_
  repeat (go_big_quiet_step (fail))
  refine wpQuiet_nil ?_
  intro _ hw'
  obtain ⟨nq, hw''⟩ := hw'
  subst hw''
  exact (unhide HQ) _ _ _ _ _ _ _ _ _ _ _ _ _ _ _ _ _ _ _ _ _ _ _ _ _ _ _ _ _ _ _ _ _ _ _ _ _ _ _ _ _ _ _ _ _ _ _ _ _ _ _ _ _ _ _ _ _ _ _ _ _
end Go.Proofs.Ytlbkoafeedlfaaa

namespace Go.Proofs.Ytlbkoafeedlfaaa
open Go.RowKit

theorem drewN_below {B : Nat} {a w : World} (h : Below B a w) (n : Nat) : Below B a (w.drewN n) := ⟨h.os, h.tape, h.output, h.size, h.block⟩
theorem ArS.few {w : World} {base bA : Nat} {ns : List NodeM} {os : List OneM} {F : Nat → Prop} (h : ArS w base bA ns F) (hs : Sim ns os) : os.length ≤ 32768 := by
  obtain ⟨bS, g, cap, h, _⟩ := h
  rw [← hs.len]
  exact h.most
theorem kids_few {ns : List NodeM} {os : List OneM} (hs : Sim ns os) {i : Nat} {o : OneM} (ho : os[i]? = some o) : o.kids.length ≤ os.length := by
  have hK := hs.kids i o ho
  have := List.Nodup.length_le_of_subset hK.nodup (l₂ := List.range ns.length) (fun x hx => List.mem_range.2 (hK.mem x hx))
  simpa [hs.len] using this
theorem node_named {w : World} {base bA : Nat} {ns : List NodeM} {F : Nat → Prop} (h : ArS w base bA ns F) (i : Nat) (n : NodeM) (hi : ns[i]? = some n) {np nf nl : Int} (h1 : n.parent = np) (h2 : n.first = nf) (h3 : n.last = nl) :
    Calls Try.prog 18 #[.pointer (some ⟨bA, 0, none⟩), .int .i64 i] w fun e w' => ∃ (ao : Option Addr) (q cp : Nat), e = .returned (.tuple #[.agg #[.int .i64 n.kind, .int .i64 n.space, .string n.name, .slice ao q cp, .string n.data, .string n.system, .int .i64 np, .int .i64 nf, .int .i64 nl, .int .i64 n.prev, .int .i64 n.next, .int .i64 n.inner], .int .i64 0]) ∧ Below w.heap.size w w' := by
  subst h1 h2 h3
  exact node_plain h i n hi
theorem node_child {w : World} {base bA : Nat} {ns : List NodeM} {F : Nat → Prop} (h : ArS w base bA ns F) (i : Nat) (n : NodeM) (hi : ns[i]? = some n) {np pv nx : Int} (h1 : n.parent = np) (h2 : n.prev = pv) (h3 : n.next = nx) :
    Calls Try.prog 18 #[.pointer (some ⟨bA, 0, none⟩), .int .i64 i] w fun e w' => ∃ (ao : Option Addr) (q cp : Nat), e = .returned (.tuple #[.agg #[.int .i64 n.kind, .int .i64 n.space, .string n.name, .slice ao q cp, .string n.data, .string n.system, .int .i64 np, .int .i64 n.first, .int .i64 n.last, .int .i64 pv, .int .i64 nx, .int .i64 n.inner], .int .i64 0]) ∧ Below w.heap.size w w' := by
  subst h1 h2 h3
  exact node_plain h i n hi
theorem box_kept {w5 w6 : World} {v0 v1 v2 v3 v4 v5 v6 v7 v8 v9 v10 v11 : Value} {t : TypeId} (hb : Below (w5.alloc (.cells #[v0, v1, v2, v3, v4, v5, v6, v7, v8, v9, v10, v11] t)).heap.size (w5.alloc (.cells #[v0, v1, v2, v3, v4, v5, v6, v7, v8, v9, v10, v11] t)) w6) :
    w6.cell? ⟨w5.heap.size, 6, none⟩ = some v6 ∧ w6.cell? ⟨w5.heap.size, 7, none⟩ = some v7 ∧ w6.cell? ⟨w5.heap.size, 8, none⟩ = some v8 ∧ w5.heap.size < w6.heap.size := by
  have hs := hb.size
  refine ⟨(hb.cell (p := ⟨w5.heap.size, 6, none⟩) (by simp)).trans (by simp), (hb.cell (p := ⟨w5.heap.size, 7, none⟩) (by simp)).trans (by simp), (hb.cell (p := ⟨w5.heap.size, 8, none⟩) (by simp)).trans (by simp), by simp at hs; omega⟩
end Go.Proofs.Ytlbkoafeedlfaaa
