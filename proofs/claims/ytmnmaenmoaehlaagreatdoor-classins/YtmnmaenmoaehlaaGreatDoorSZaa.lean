/-
   
-/
import Derived.WalkKit
import Derived.WalkSpells
import Derived.Test.YtmnmaenmoaehlaaGreatDoorRows
import Derived.WalkLawsBesides
namespace Go.Proofs.YtmnmaenmoaehlaaGreatDoor
open Go.RowKit

structure AttrM where
  space : Int
  pre : ByteArray
  name : ByteArray
  val : ByteArray

def AttrM.cells (a : AttrM) : List Value := [.int .i64 a.space, .string a.pre, .string a.name, .string a.val]

structure NodeM where
  kind : Int
  space : Int
  name : ByteArray
  av : Value
  data : ByteArray
  system : ByteArray
  parent : Int
  first : Int
  last : Int
  prev : Int
  next : Int
  inner : Int
  attrs : List AttrM

def NodeM.cells (n : NodeM) : List Value :=
  [.int .i64 n.kind, .int .i64 n.space, .string n.name, n.av, .string n.data, .string n.system, .int .i64 n.parent, .int .i64 n.first, .int .i64 n.last, .int .i64 n.prev, .int .i64 n.next, .int .i64 n.inner]

def attrRow (l : List AttrM) : List Value := l.flatMap AttrM.cells
def nodeRow (l : List NodeM) : List Value := l.flatMap NodeM.cells

theorem flat_len {α : Type} (f : α → List Value) (m : Nat) (hm : ∀ x, (f x).length = m) (l : List α) : (l.flatMap f).length = l.length * m := by
  induction l with
  | nil => simp
  | cons x l ih => simp [ih, hm, Nat.add_mul]; omega

theorem flat_get {α : Type} (f : α → List Value) (m : Nat) (hm : ∀ x, (f x).length = m) (l : List α) (i j : Nat) (hj : j < m) :
    (l.flatMap f)[i * m + j]? = (l[i]?).bind fun x => (f x)[j]? := by
  induction l generalizing i with
  | nil => simp
  | cons x l ih =>
    cases i with
    | zero => simp only [List.flatMap_cons, Nat.zero_mul, Nat.zero_add]; rw [List.getElem?_append_left (by rw [hm]; exact hj)]; simp
    | succ i =>
      simp only [List.flatMap_cons]
      rw [List.getElem?_append_right (by rw [hm, Nat.add_mul]; omega), hm]
      have e : (i + 1) * m + j - m = i * m + j := by rw [Nat.add_mul]; omega
      rw [e, ih]; simp

theorem flat_set {α : Type} (f : α → List Value) (m : Nat) (hm : ∀ x, (f x).length = m) (l : List α) (i j : Nat) (hj : j < m) (x y : α) (v : Value)
    (hx : l[i]? = some x) (hy : f y = (f x).set j v) : (l.flatMap f).set (i * m + j) v = (l.set i y).flatMap f := by
  induction l generalizing i with
  | nil => simp at hx
  | cons z l ih =>
    cases i with
    | zero =>
      simp at hx; subst hx
      simp only [List.flatMap_cons, Nat.zero_mul, Nat.zero_add, List.set_cons_zero]
      rw [List.set_append_left _ _ (by rw [hm]; exact hj), hy]
    | succ i =>
      simp only [List.flatMap_cons, List.set_cons_succ]
      have e : (i + 1) * m + j = m + (i * m + j) := by rw [Nat.add_mul]; omega
      rw [e, List.set_append_right _ _ (by rw [hm]; omega), hm, Nat.add_sub_cancel_left, ih i (by simpa using hx)]

theorem attr_len (a : AttrM) : a.cells.length = 4 := rfl
theorem node_len (a : NodeM) : a.cells.length = 12 := rfl

/-- The arena at block bA: its store at bS, its nodes from the head of block g on, each node's attributes in a row of their own. -/
structure Ar (w : World) (base bA bS g cap : Nat) (ns : List NodeM) : Prop where
  arena : w.heap[bA]? = some (.cells #[.pointer (some ⟨bS, 0, none⟩)] 87 (0, 0))
  store : w.heap[bS]? = some (.cells #[.slice (some ⟨g, 0, none⟩) ns.length cap] 85 (0, 0))
  row : w.ownsRow base 51 12 (.slice (some ⟨g, 0, none⟩) ns.length cap) ns.length (nodeRow ns)
  lo1 : base ≤ bA
  lo2 : base ≤ bS
  pos : 0 < ns.length
  most : ns.length ≤ 32768
  attrs : ∀ (i : Nat) n, ns[i]? = some n → w.ownsRow base 93 4 n.av n.attrs.length (attrRow n.attrs)
  few : ∀ (i : Nat) n, ns[i]? = some n → n.attrs.length ≤ 1024
  apart : ∀ (i j : Nat) n m, i ≠ j → ns[i]? = some n → ns[j]? = some m → n.av.ownBlock = none ∨ n.av.ownBlock ≠ m.av.ownBlock

section
variable {w : World} {base bA bS g cap : Nat} {ns : List NodeM}

theorem Ar.cA (h : Ar w base bA bS g cap ns) : w.cell? ⟨bA, 0, none⟩ = some (.pointer (some ⟨bS, 0, none⟩)) := cell_of_one h.arena
theorem Ar.cS (h : Ar w base bA bS g cap ns) : w.cell? ⟨bS, 0, none⟩ = some (.slice (some ⟨g, 0, none⟩) ns.length cap) := cell_of_one h.store
theorem Ar.fS (h : Ar w base bA bS g cap ns) : w.frozen? ⟨bS, 0, none⟩ = false := free_of_one h.store
theorem Ar.fg (h : Ar w base bA bS g cap ns) (j : Nat) : w.frozen? ⟨g, j, none⟩ = false := h.row.frozenAt j

theorem Ar.cell (h : Ar w base bA bS g cap ns) {i : Nat} {n : NodeM} (hi : ns[i]? = some n) (j : Nat) (hj : j < 12) : w.cell? ⟨g, i * 12 + j, none⟩ = n.cells[j]? := by
  have hlt : i < ns.length := (List.getElem?_eq_some_iff.1 hi).1
  rw [h.row.cellAt (i * 12 + j) (by omega), nodeRow, flat_get NodeM.cells 12 node_len ns i j hj, hi]; rfl

theorem Ar.cells12 (h : Ar w base bA bS g cap ns) {i : Nat} {n : NodeM} (hi : ns[i]? = some n) :
    w.cell? ⟨g, i * 12, none⟩ = some (.int .i64 n.kind) ∧ w.cell? ⟨g, i * 12 + 1, none⟩ = some (.int .i64 n.space) ∧ w.cell? ⟨g, i * 12 + 2, none⟩ = some (.string n.name) ∧
    w.cell? ⟨g, i * 12 + 3, none⟩ = some n.av ∧ w.cell? ⟨g, i * 12 + 4, none⟩ = some (.string n.data) ∧ w.cell? ⟨g, i * 12 + 5, none⟩ = some (.string n.system) ∧
    w.cell? ⟨g, i * 12 + 6, none⟩ = some (.int .i64 n.parent) ∧ w.cell? ⟨g, i * 12 + 7, none⟩ = some (.int .i64 n.first) ∧ w.cell? ⟨g, i * 12 + 8, none⟩ = some (.int .i64 n.last) ∧
    w.cell? ⟨g, i * 12 + 9, none⟩ = some (.int .i64 n.prev) ∧ w.cell? ⟨g, i * 12 + 10, none⟩ = some (.int .i64 n.next) ∧ w.cell? ⟨g, i * 12 + 11, none⟩ = some (.int .i64 n.inner) :=
  ⟨h.cell hi 0 (by omega), h.cell hi 1 (by omega), h.cell hi 2 (by omega), h.cell hi 3 (by omega), h.cell hi 4 (by omega), h.cell hi 5 (by omega), h.cell hi 6 (by omega), h.cell hi 7 (by omega),
    h.cell hi 8 (by omega), h.cell hi 9 (by omega), h.cell hi 10 (by omega), h.cell hi 11 (by omega)⟩

/-- The block of the nodes' row. -/
theorem Ar.blockg (h : Ar w base bA bS g cap ns) : ∃ cur, w.heap[g]? = some (.cells cur 51 (0, 0)) := by
  rcases h.row.2 with ⟨h', _⟩ | ⟨g', cap', cur, h', _, hg, _⟩
  · simp at h'
  · simp only [Value.slice.injEq, Option.some.injEq, Addr.mk.injEq, and_true, true_and] at h'
    obtain ⟨rfl, rfl⟩ := h'
    exact ⟨cur, hg⟩

theorem Ar.neAg (h : Ar w base bA bS g cap ns) : bA ≠ g := by
  obtain ⟨cur, hg⟩ := h.blockg
  intro e; subst e; have := h.arena; rw [hg] at this; simp at this
theorem Ar.neSg (h : Ar w base bA bS g cap ns) : bS ≠ g := by
  obtain ⟨cur, hg⟩ := h.blockg
  intro e; subst e; have := h.store; rw [hg] at this; simp at this
theorem Ar.neAS (h : Ar w base bA bS g cap ns) : bA ≠ bS := by
  intro e; subst e; have := h.store; rw [h.arena] at this; simp at this

theorem ownsRow_block {w : World} {base : Nat} {e : TypeId} {size : Nat} {v : Value} {n : Nat} {xs : List Value} (h : w.ownsRow base e size v n xs) {k : Nat} (hk : v.ownBlock = some k) : ∃ cur, w.heap[k]? = some (.cells cur e (0, 0)) := by
  rcases h.2 with ⟨h', _⟩ | ⟨g', cap', cur, h', _, hg, _⟩
  · subst h'; simp [Value.ownBlock] at hk
  · subst h'; simp [Value.ownBlock] at hk; subst hk; exact ⟨cur, hg⟩

theorem Ar.neAttr (h : Ar w base bA bS g cap ns) {i : Nat} {n : NodeM} (hi : ns[i]? = some n) : n.av.ownBlock ≠ some g ∧ n.av.ownBlock ≠ some bS ∧ n.av.ownBlock ≠ some bA := by
  refine ⟨fun e => ?_, fun e => ?_, fun e => ?_⟩ <;> obtain ⟨cur, hc⟩ := ownsRow_block (h.attrs i n hi) e
  · obtain ⟨cu, hg⟩ := h.blockg; rw [hc] at hg; simp at hg
  · have := h.store; rw [hc] at this; simp at this
  · have := h.arena; rw [hc] at this; simp at this

theorem Ar.lt (h : Ar w base bA bS g cap ns) : bA < w.heap.size ∧ bS < w.heap.size ∧ g < w.heap.size := by
  obtain ⟨cur, hg⟩ := h.blockg
  exact ⟨lt_of_block h.arena, lt_of_block h.store, lt_of_block hg⟩

/-- The blocks of an arena. -/
def foot (bA bS g : Nat) (ns : List NodeM) (k : Nat) : Prop := k = bA ∨ k = bS ∨ k = g ∨ ∃ n ∈ ns, n.av.ownBlock = some k

/-- Where the blocks of an arena stay as they are, it stays as it is. -/
theorem Ar.same {w' : World} (h : Ar w base bA bS g cap ns) (hb : ∀ k, foot bA bS g ns k → w'.heap[k]? = w.heap[k]?) : Ar w' base bA bS g cap ns := by
  have own : ∀ {e : TypeId} {size : Nat} {v : Value} {n : Nat} {xs : List Value}, w.ownsRow base e size v n xs → (∀ k, v.ownBlock = some k → w'.heap[k]? = w.heap[k]?) → w'.ownsRow base e size v n xs := by
    intro e size v n xs h hk
    refine ⟨h.1, ?_⟩
    rcases h.2 with hn | ⟨g', cap', cur, rfl, hbb, hgg, rest⟩
    · exact .inl hn
    · exact .inr ⟨g', cap', cur, rfl, hbb, by rw [hk g' rfl]; exact hgg, rest⟩
  exact ⟨by rw [hb bA (.inl rfl)]; exact h.arena, by rw [hb bS (.inr (.inl rfl))]; exact h.store, own h.row (fun k hk => by simp [Value.ownBlock] at hk; subst hk; exact hb _ (.inr (.inr (.inl rfl)))),
    h.lo1, h.lo2, h.pos, h.most, fun i n hi => own (h.attrs i n hi) (fun k hk => hb k (.inr (.inr (.inr ⟨n, List.mem_of_getElem? hi, hk⟩)))), h.few, h.apart⟩

theorem Ar.foot_lt (h : Ar w base bA bS g cap ns) {k : Nat} (hk : foot bA bS g ns k) : base ≤ k ∧ k < w.heap.size := by
  rcases hk with rfl | rfl | rfl | ⟨n, hn, hk⟩
  · exact ⟨h.lo1, h.lt.1⟩
  · exact ⟨h.lo2, h.lt.2.1⟩
  · exact (h.row.lt _ rfl)
  · obtain ⟨i, hi⟩ := List.mem_iff_getElem?.1 hn; exact (h.attrs i n hi).lt k hk

theorem Ar.below {w' : World} (h : Ar w base bA bS g cap ns) (hb : Below w.heap.size w w') : Ar w' base bA bS g cap ns :=
  h.same fun _ hk => hb.block _ (h.foot_lt hk).2

theorem Ar.alloc (h : Ar w base bA bS g cap ns) (o : Obj) : Ar (w.alloc o) base bA bS g cap ns := h.below ((Below.refl _ w).alloc (Nat.le_refl _) o)
theorem Ar.drew (h : Ar w base bA bS g cap ns) : Ar w.drew base bA bS g cap ns := h.below (Below.refl _ w).drew

/-- A store into one field of one node. -/
theorem Ar.set (h : Ar w base bA bS g cap ns) {i : Nat} {n m : NodeM} (hi : ns[i]? = some n) (j : Nat) (hj : j < 12) (v : Value) (hm : m.cells = n.cells.set j v) (hav : m.av = n.av) (hat : m.attrs = n.attrs) :
    Ar (w.setCell ⟨g, i * 12 + j, none⟩ v) base bA bS g cap (ns.set i m) := by
  have hlt : i < ns.length := (List.getElem?_eq_some_iff.1 hi).1
  have hst := h.row.stored (i * 12 + j) v
  have hoth : ∀ k, k ≠ g → (w.setCell ⟨g, i * 12 + j, none⟩ v).heap[k]? = w.heap[k]? := fun k hk => Below.heap_setCell _ _ _ _ hk
  have old : ∀ (a : Nat) (x : NodeM), (ns.set i m)[a]? = some x → ∃ y, ns[a]? = some y ∧ x.av = y.av ∧ x.attrs = y.attrs := by
    intro a x hx
    by_cases e : i = a
    · subst e; rw [List.getElem?_set_self hlt] at hx; simp at hx; subst hx; exact ⟨n, hi, hav, hat⟩
    · rw [List.getElem?_set_ne e] at hx; exact ⟨x, hx, rfl, rfl⟩
  refine ⟨by rw [hoth bA h.neAg]; exact h.arena, by rw [hoth bS h.neSg, List.length_set]; exact h.store, ?_, h.lo1, h.lo2, by simpa using h.pos, by simpa using h.most, ?_, ?_, ?_⟩
  · rw [List.length_set, nodeRow, ← flat_set NodeM.cells 12 node_len ns i j hj n m v hi hm]; exact hst.1
  · intro a x hx
    obtain ⟨y, hy, e1, e2⟩ := old a x hx
    rw [e1, e2]
    exact ownsRow_setCell_other (h.attrs a y hy) (h.neAttr hy).1 v
  · intro a x hx
    obtain ⟨y, hy, e1, e2⟩ := old a x hx
    rw [e2]; exact h.few a y hy
  · intro a b x z hab hx hz
    obtain ⟨y, hy, e1, _⟩ := old a x hx
    obtain ⟨y', hy', e1', _⟩ := old b z hz
    rw [e1, e1']; exact h.apart a b y y' hab hy hy'
end
end Go.Proofs.YtmnmaenmoaehlaaGreatDoor

namespace Go.Proofs.YtmnmaenmoaehlaaGreatDoor
open Go.RowKit
variable {w : World} {base bA bS g cap : Nat} {ns : List NodeM}

theorem made_yes (h : Ar w base bA bS g cap ns) : Calls Tryz.prog 32 #[.pointer (some ⟨bA, 0, none⟩)] w fun e w' => e = .returned (.bool true) ∧ w = w' := by
  have hA := h.cA
  clear h
  go_enter Tryz.func32, Tryz.ntmps32
  go_wp2
  go_ret
  exact ⟨rfl, rfl⟩

def hasM (ns : List NodeM) (k : Int) : Bool := decide (0 ≤ k ∧ k < ns.length)

theorem has_any (h : Ar w base bA bS g cap ns) (k : Int) : Calls Tryz.prog 46 #[.pointer (some ⟨bA, 0, none⟩), .int .i64 k] w fun e w' => e = .returned (.bool (hasM ns k)) ∧ w = w' := by
  have hA := h.cA
  have hS := h.cS
  have hn := h.most
  clear h
  go_enter Tryz.func46, Tryz.ntmps46
  go_wp2
  all_goals go_ret
  · refine ⟨?_, rfl⟩
    have h0 : 0 ≤ k := by assumption
    simp [hasM, h0]
  · refine ⟨?_, rfl⟩
    have h0 : k < 0 := by assumption
    have : ¬ (0 ≤ k ∧ k < ns.length) := by omega
    simp [hasM, this]

/-- The cells of a node of a kind without links. -/
def blankM (k : Int) : NodeM := { kind := k, space := 0, name := ⟨#[]⟩, av := .slice none 0 0, data := ⟨#[]⟩, system := ⟨#[]⟩, parent := -1, first := -1, last := -1, prev := -1, next := -1, inner := -1, attrs := [] }

theorem blank_any (k : Int) : Calls Tryz.prog 31 #[.int .i64 k] w fun e w' =>
    e = .returned (.agg #[.int .i64 k, .int .i64 0, .string ⟨#[]⟩, .slice none 0 0, .string ⟨#[]⟩, .string ⟨#[]⟩, .int .i64 (-1), .int .i64 (-1), .int .i64 (-1), .int .i64 (-1), .int .i64 (-1), .int .i64 (-1)]) ∧
      w.alloc (.cells #[.int .i64 k, .int .i64 0, .string ⟨#[]⟩, .slice none 0 0, .string ⟨#[]⟩, .string ⟨#[]⟩, .int .i64 (-1), .int .i64 (-1), .int .i64 (-1), .int .i64 (-1), .int .i64 (-1), .int .i64 (-1)] 51) = w' := by
  go_enter Tryz.func31, Tryz.ntmps31
  go_wp2
  exact bodyPost_ret (v := .agg #[.int .i64 k, .int .i64 0, .string ⟨#[]⟩, .slice none 0 0, .string ⟨#[]⟩, .string ⟨#[]⟩, .int .i64 (-1), .int .i64 (-1), .int .i64 (-1), .int .i64 (-1), .int .i64 (-1), .int .i64 (-1)]) (by simp [results, Tryz.results31, go_sem]) rfl ⟨rfl, rfl⟩
end Go.Proofs.YtmnmaenmoaehlaaGreatDoor

namespace Go.Proofs.YtmnmaenmoaehlaaGreatDoor
open Go.RowKit

def longS (s : ByteArray) : Bool := decide (1048576 < s.size)

/-- No text of the first k is long. -/
theorem none_long (ss : List ByteArray) (k : Nat) (s : ByteArray) (hs : ss[k]? = some s) (h : ∀ j s, j < k → ss[j]? = some s → longS s = false) (hl : longS s = false) : ∀ j s, j < k + 1 → ss[j]? = some s → longS s = false := by
  intro j t hj ht
  by_cases e : j = k
  · subst e; rw [hs] at ht; simp at ht; subst ht; exact hl
  · exact h j t (by omega) ht

theorem any_long_yes {ss : List ByteArray} {k : Nat} {s : ByteArray} (hs : ss[k]? = some s) (hl : longS s = true) : ss.any longS = true :=
  List.any_eq_true.2 ⟨s, List.mem_of_getElem? hs, hl⟩
theorem any_long_no {ss : List ByteArray} (h : ∀ j s, j < ss.length → ss[j]? = some s → longS s = false) : ss.any longS = false := by
  rw [List.any_eq_false]
  intro s hs
  obtain ⟨i, hi⟩ := List.mem_iff_getElem?.1 hs
  rw [h i s (List.getElem?_eq_some_iff.1 hi).1 hi]; simp

set_option maxHeartbeats 400000 in
theorem anyLong_any (w : World) (b cap : Nat) (ss : List ByteArray) (hc : ∀ j s, ss[j]? = some s → w.cell? ⟨b, j, none⟩ = some (.string s)) (hn : ss.length ≤ 1000) :
    Calls Tryz.prog 33 #[.slice (some ⟨b, 0, none⟩) ss.length cap] w fun e w' => e = .returned (.bool (ss.any longS)) ∧ w = w' := by
  go_enter Tryz.func33, Tryz.ntmps33
  go_wp2
  go_loop [7] (fun i => ∃ k : Nat, k ≤ ss.length ∧ i = .int .i64 k ∧ ∀ j s, j < k → ss[j]? = some s → longS s = false) (fun i => ss.length - (intOf i).toNat)
  case atStart => exact ⟨0, Nat.zero_le _, rfl, fun j s hj => by omega⟩
  case round =>
    obtain ⟨k, hk, rfl, hall⟩ := hrel
    by_cases hlt : k < ss.length
    · obtain ⟨s, hs⟩ : ∃ s, ss[k]? = some s := ⟨_, List.getElem?_eq_getElem hlt⟩
      have hcell := hc k s hs
      clear hc
      by_cases hl : longS s = true
      · have hl' : (1048576 : Int) < (s.size : Int) := by simp [longS] at hl; omega
        have HA : Hid (ss.any longS = true) := any_long_yes hs hl
        clear hs hall hl
        go_wp2
        go_ret
        exact ⟨by rw [HA.out]; rfl, rfl⟩
      · have hl0 : longS s = false := by simpa using hl
        have hl' : ¬ (1048576 : Int) < (s.size : Int) := by simp [longS] at hl0; omega
        have HA := none_long ss k s hs hall hl0
        have HA' : Hid (∀ j s, j < k + 1 → ss[j]? = some s → longS s = false) := HA
        clear HA hs hall hl hl0
        go_wp2
        go_round
        case rel => exact ⟨k + 1, by omega, by go_num, HA'.out⟩
        case measure => simp [intOf]; omega
    · have HA : Hid (ss.any longS = false) := any_long_no (fun j s hj hs => hall j s (by omega) hs)
      clear hall hc
      go_wp2
      go_ret
      exact ⟨by rw [HA.out]; rfl, rfl⟩

def AttrM.long (x : AttrM) : Bool := [x.pre, x.name, x.val].any longS
def AttrM.agg (x : AttrM) : Value := .agg #[.int .i64 x.space, .string x.pre, .string x.name, .string x.val]

theorem three_cells (w : World) (t : TypeId) (x y z : ByteArray) : ∀ j s, [x, y, z][j]? = some s → (w.alloc (.cells #[.string x, .string y, .string z] t)).cell? ⟨w.heap.size, j, none⟩ = some (.string s) := by
  intro j s hj
  match j, hj with
  | 0, hj => simp at hj; subst hj; simp
  | 1, hj => simp at hj; subst hj; simp
  | 2, hj => simp at hj; subst hj; simp

set_option maxHeartbeats 400000 in
theorem isLongAttr_any (x : AttrM) (w : World) :
    Calls Tryz.prog 65 #[x.agg] w fun e w' => e = .returned (.bool x.long) ∧ Below w.heap.size w w' := by
  unfold AttrM.agg
  go_enter Tryz.func65, Tryz.ntmps65
  go_wp2_with (go_at_call 33; go_must (refine (anyLong_any _ _ 3 [x.pre, x.name, x.val] (by have := three_cells (w.alloc (.cells #[.int .i64 x.space, .string x.pre, .string x.name, .string x.val] 93)) 9 x.pre x.name x.val; simpa using this) (by simp)).mono ?_); rintro e w' ⟨rfl, rfl⟩)
  go_ret
  exact ⟨by simp [AttrM.long], (((Below.refl _ _).alloc (Nat.le_refl _) _).alloc (by simp) _)⟩

/-- A slice of attributes as it is read: its length, and where its cells lie, if there are any. -/
structure AttrsIn (w : World) (a : Option Addr) (l : List AttrM) : Prop where
  cells : ∀ (i : Nat) x, l[i]? = some x → ∃ b off, a = some ⟨b, off, none⟩ ∧ w.cell? ⟨b, off + i * 4, none⟩ = some (.int .i64 x.space) ∧ w.cell? ⟨b, off + i * 4 + 1, none⟩ = some (.string x.pre) ∧
    w.cell? ⟨b, off + i * 4 + 2, none⟩ = some (.string x.name) ∧ w.cell? ⟨b, off + i * 4 + 3, none⟩ = some (.string x.val)

theorem AttrsIn.below {w w' : World} {a : Option Addr} {l : List AttrM} (h : AttrsIn w a l) (hb : Below w.heap.size w w') : AttrsIn w' a l := by
  refine ⟨fun i x hi => ?_⟩
  obtain ⟨b, off, e, c0, c1, c2, c3⟩ := h.cells i x hi
  have hlt : b < w.heap.size := World.block_lt_of_cell? w _ c0
  exact ⟨b, off, e, (hb.cell (p := ⟨b, off + i * 4, none⟩) hlt).trans c0, (hb.cell (p := ⟨b, off + i * 4 + 1, none⟩) hlt).trans c1, (hb.cell (p := ⟨b, off + i * 4 + 2, none⟩) hlt).trans c2, (hb.cell (p := ⟨b, off + i * 4 + 3, none⟩) hlt).trans c3⟩

def idxM (p : AttrM → Bool) (l : List AttrM) : Int := match l.findIdx? p with | some i => i | none => -1

theorem idxM_hit {p : AttrM → Bool} {l : List AttrM} {k : Nat} {x : AttrM} (hx : l[k]? = some x) (hp : p x = true) (h : ∀ j x, j < k → l[j]? = some x → p x = false) : idxM p l = k := by
  have hlt : k < l.length := (List.getElem?_eq_some_iff.1 hx).1
  have : l.findIdx? p = some k := by
    rw [List.findIdx?_eq_some_iff_getElem]
    refine ⟨hlt, ?_, ?_⟩
    · rw [List.getElem?_eq_getElem hlt] at hx; simp at hx; rw [hx]; exact hp
    · intro j hj; rw [h j l[j] hj (List.getElem?_eq_getElem (by omega))]; simp
  simp [idxM, this]

theorem idxM_miss {p : AttrM → Bool} {l : List AttrM} (h : ∀ j x, j < l.length → l[j]? = some x → p x = false) : idxM p l = -1 := by
  have : l.findIdx? p = none := by
    rw [List.findIdx?_eq_none_iff]
    intro x hx
    obtain ⟨i, hi⟩ := List.mem_iff_getElem?.1 hx
    exact h i x (List.getElem?_eq_some_iff.1 hi).1 hi
  simp [idxM, this]

theorem none_attr {p : AttrM → Bool} {l : List AttrM} {k : Nat} {x : AttrM} (hx : l[k]? = some x) (h : ∀ j x, j < k → l[j]? = some x → p x = false) (hp : p x = false) : ∀ j x, j < k + 1 → l[j]? = some x → p x = false := by
  intro j t hj ht
  by_cases e : j = k
  · subst e; rw [hx] at ht; simp at ht; subst ht; exact hp
  · exact h j t (by omega) ht

set_option maxHeartbeats 1000000 in
theorem indexFunc_any (K : Nat) (cs : Array Value) (eg : ∀ args w, (callFunc K args).run Tryz.prog w = .ok (.enter K args) w) (p : AttrM → Bool) (w : World)
    (hf : ∀ (x : AttrM) w1, Below w.heap.size w w1 → Calls Tryz.prog K (#[x.agg] ++ cs) w1 fun e w' => e = .returned (.bool (p x)) ∧ Below w1.heap.size w1 w')
    (a : Option Addr) (cap : Nat) (l : List AttrM) (hl : AttrsIn w a l) (hn : l.length ≤ maxLen) :
    Calls Tryz.prog 88 #[.slice a l.length cap, .func (.func K) #[] cs] w fun e w' => e = .returned (.int .i64 (idxM p l)) ∧ Below w.heap.size w w' := by
  unfold maxLen at hn
  have HF : Hid (∀ (x : AttrM) w1, Below w.heap.size w w1 → Calls Tryz.prog K (#[x.agg] ++ cs) w1 fun e w' => e = .returned (.bool (p x)) ∧ Below w1.heap.size w1 w') := hf
  clear hf
  go_enter Tryz.func88, Tryz.ntmps88
  go_wp2
  go_loopw [8] (fun i wr => ∃ k : Nat, k ≤ l.length ∧ i = .int .i64 k ∧ (∀ j x, j < k → l[j]? = some x → p x = false) ∧ Below w.heap.size w wr) (fun i _ => l.length - (intOf i).toNat)
  case atStart => exact ⟨0, Nat.zero_le _, rfl, fun j x hj => by omega, Below.refl _ _⟩
  case round =>
    obtain ⟨k, hk, rfl, hall, hb⟩ := hrel
    by_cases hlt : k < l.length
    · obtain ⟨x, hx⟩ : ∃ x, l[k]? = some x := ⟨_, List.getElem?_eq_getElem hlt⟩
      obtain ⟨b, off, e, c0, c1, c2, c3⟩ := (hl.below hb).cells k x hx
      subst e
      have hcall := HF.out x wr hb
      have HC : Hid (Calls Tryz.prog K (#[x.agg] ++ cs) wr fun e w' => e = .returned (.bool (p x)) ∧ Below wr.heap.size wr w') := hcall
      clear hcall HF hl
      have HB : Hid (Below w.heap.size w wr) := hb
      clear hb
      cases hp : p x with
      | true =>
        have HA : Hid (idxM p l = k) := idxM_hit hx hp hall
        rw [hp] at HC
        clear hx hall hp
        go_wp2_with fail
        refine HC.out.mono ?_
        rintro e w1 ⟨rfl, hb1⟩
        go_wp2
        go_ret
        exact ⟨by rw [HA.out]; rfl, HB.out.trans (hb1.mono HB.out.size)⟩
      | false =>
        have HA : Hid (∀ j x, j < k + 1 → l[j]? = some x → p x = false) := none_attr hx hall hp
        rw [hp] at HC
        clear hx hall hp
        go_wp2_with fail
        refine HC.out.mono ?_
        rintro e w1 ⟨rfl, hb1⟩
        go_wp2
        go_roundw
        case rel => exact ⟨k + 1, by omega, by go_num, HA.out, HB.out.trans (hb1.mono HB.out.size)⟩
        case measure => simp [intOf]; omega
    · have HA : Hid (idxM p l = -1) := idxM_miss (fun j s hj hs => hall j s (by omega) hs)
      have HB : Hid (Below w.heap.size w wr) := hb
      clear hall hl HF hb
      go_wp2
      go_ret
      exact ⟨by rw [HA.out]; rfl, HB.out⟩
end Go.Proofs.YtmnmaenmoaehlaaGreatDoor
