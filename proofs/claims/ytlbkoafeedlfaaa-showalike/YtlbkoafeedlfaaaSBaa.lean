/-
  How an arena of package node lies in memory: its nodes' row, its attributes' rows, and what a store, a new block or a growth of other rows does to it. No program is named here, only the numbers of its types. The calls of package node that only read a little: made, has, Len, isParent, Host, over, blank.
-/
import Derived.WalkKit
import Derived.WalkSpells
import Derived.Test.YtlbkoafeedlfaaaRows
import Derived.WalkLawsBesides
namespace Go.Proofs.Ytlbkoafeedlfaaa
open Go.RowKit

structure AttrM where
  space : Int
  pre : ByteArray
  name : ByteArray
  val : ByteArray

def AttrM.cells (a : AttrM) : List Value := [.int .i64 a.space, .string a.pre, .string a.name, .string a.val]

structure NodeM where
  kind : Int
  space : Int
  name : ByteArray
  av : Value
  data : ByteArray
  system : ByteArray
  parent : Int
  first : Int
  last : Int
  prev : Int
  next : Int
  inner : Int
  attrs : List AttrM

def NodeM.cells (n : NodeM) : List Value :=
  [.int .i64 n.kind, .int .i64 n.space, .string n.name, n.av, .string n.data, .string n.system, .int .i64 n.parent, .int .i64 n.first, .int .i64 n.last, .int .i64 n.prev, .int .i64 n.next, .int .i64 n.inner]

def attrRow (l : List AttrM) : List Value := l.flatMap AttrM.cells
def nodeRow (l : List NodeM) : List Value := l.flatMap NodeM.cells

theorem flat_len {α : Type} (f : α → List Value) (m : Nat) (hm : ∀ x, (f x).length = m) (l : List α) : (l.flatMap f).length = l.length * m := by
  induction l with
  | nil => simp
  | cons x l ih => simp [ih, hm, Nat.add_mul]; omega

theorem flat_get {α : Type} (f : α → List Value) (m : Nat) (hm : ∀ x, (f x).length = m) (l : List α) (i j : Nat) (hj : j < m) :
    (l.flatMap f)[i * m + j]? = (l[i]?).bind fun x => (f x)[j]? := by
  induction l generalizing i with
  | nil => simp
  | cons x l ih =>
    cases i with
    | zero => simp only [List.flatMap_cons, Nat.zero_mul, Nat.zero_add]; rw [List.getElem?_append_left (by rw [hm]; exact hj)]; simp
    | succ i =>
      simp only [List.flatMap_cons]
      rw [List.getElem?_append_right (by rw [hm, Nat.add_mul]; omega), hm]
      have e : (i + 1) * m + j - m = i * m + j := by rw [Nat.add_mul]; omega
      rw [e, ih]; simp

theorem flat_set {α : Type} (f : α → List Value) (m : Nat) (hm : ∀ x, (f x).length = m) (l : List α) (i j : Nat) (hj : j < m) (x y : α) (v : Value)
    (hx : l[i]? = some x) (hy : f y = (f x).set j v) : (l.flatMap f).set (i * m + j) v = (l.set i y).flatMap f := by
  induction l generalizing i with
  | nil => simp at hx
  | cons z l ih =>
    cases i with
    | zero =>
      simp at hx; subst hx
      simp only [List.flatMap_cons, Nat.zero_mul, Nat.zero_add, List.set_cons_zero]
      rw [List.set_append_left _ _ (by rw [hm]; exact hj), hy]
    | succ i =>
      simp only [List.flatMap_cons, List.set_cons_succ]
      have e : (i + 1) * m + j = m + (i * m + j) := by rw [Nat.add_mul]; omega
      rw [e, List.set_append_right _ _ (by rw [hm]; omega), hm, Nat.add_sub_cancel_left, ih i (by simpa using hx)]

theorem attr_len (a : AttrM) : a.cells.length = 4 := rfl
theorem node_len (a : NodeM) : a.cells.length = 12 := rfl

/-- A slice of attributes anywhere in a block: its cells, and its room behind them. -/
def Seg (w : World) (base : Nat) (v : Value) (n : Nat) (xs : List Value) : Prop :=
  xs.length = n * 4 ∧ ((v = .slice none 0 0 ∧ n = 0) ∨
    ∃ g off cap cur, v = .slice (some ⟨g, off, none⟩) n cap ∧ base ≤ g ∧ w.heap[g]? = some (.cells cur 29 (0, 0)) ∧ n ≤ cap ∧ cap ≤ maxLen ∧ off + cap * 4 ≤ cur.size ∧ ∀ j, j < n * 4 → cur[off + j]? = xs[j]?)

/-- The rooms of two slices have nothing in common. -/
def Away (v u : Value) : Prop := ∀ g off n c off' n' c', v = .slice (some ⟨g, off, none⟩) n c → u = .slice (some ⟨g, off', none⟩) n' c' → off + c * 4 ≤ off' ∨ off' + c' * 4 ≤ off

theorem Away.symm {v u : Value} (h : Away v u) : Away u v := fun g off n c off' n' c' h1 h2 => (h g off' n' c' off n c h2 h1).symm
theorem Away.of {v u : Value} (h : v.ownBlock = none ∨ v.ownBlock ≠ u.ownBlock) : Away v u := by
  intro g off n c off' n' c' h1 h2
  subst h1; subst h2
  rcases h with h | h
  · cases h
  · exact absurd rfl h
theorem Away.nil (u : Value) (a b : Nat) : Away u (.slice none a b) := by
  intro g off n c off' n' c' _ h2
  cases h2

/-- Outside of v's room its block is as it was. -/
def Out (v : Value) (w w' : World) : Prop := ∀ g off n c cur, v = .slice (some ⟨g, off, none⟩) n c → w.heap[g]? = some (.cells cur 29 (0, 0)) →
  ∃ cur', w'.heap[g]? = some (.cells cur' 29 (0, 0)) ∧ cur'.size = cur.size ∧ ∀ j, (j < off ∨ off + c * 4 ≤ j) → cur'[j]? = cur[j]?

theorem Out.same {v : Value} {w w' : World} (h : ∀ k, v.ownBlock = some k → w'.heap[k]? = w.heap[k]?) : Out v w w' := by
  intro g off n c cur hv hg
  subst hv
  exact ⟨cur, (h g rfl).trans hg, rfl, fun _ _ => rfl⟩
theorem Out.trans {v : Value} {a b c : World} (h : Out v a b) (k : Out v b c) : Out v a c := by
  intro g off n cp cur hv hg
  obtain ⟨c1, h1, h2, h3⟩ := h g off n cp cur hv hg
  obtain ⟨c2, k1, k2, k3⟩ := k g off n cp c1 hv h1
  exact ⟨c2, k1, k2.trans h2, fun j hj => (k3 j hj).trans (h3 j hj)⟩

section
variable {w w' : World} {base : Nat} {v : Value} {n : Nat} {xs : List Value}

theorem Seg.of (h : w.ownsRow base 29 4 v n xs) : Seg w base v n xs := by
  refine ⟨h.1, ?_⟩
  rcases h.2 with h' | ⟨g, cap, cur, rfl, hb, hg, hn, hm, hs, ht⟩
  · exact .inl h'
  · refine .inr ⟨g, 0, cap, cur, rfl, hb, hg, hn, hm, by omega, fun j hj => ?_⟩
    rw [Nat.zero_add, ← ht, List.getElem?_take, if_pos hj]; simp
theorem Seg.nil (w : World) (base : Nat) : Seg w base (.slice none 0 0) 0 [] := ⟨by simp, .inl ⟨rfl, rfl⟩⟩
theorem Seg.kept (h : Seg w base v n xs) (hk : ∀ k, v.ownBlock = some k → w'.heap[k]? = w.heap[k]?) : Seg w' base v n xs := by
  refine ⟨h.1, ?_⟩
  rcases h.2 with h' | ⟨g, off, cap, cur, rfl, hb, hg, rest⟩
  · exact .inl h'
  · exact .inr ⟨g, off, cap, cur, rfl, hb, (hk g rfl).trans hg, rest⟩
theorem Seg.block (h : Seg w base v n xs) {k : Nat} (hk : v.ownBlock = some k) : ∃ cur, w.heap[k]? = some (.cells cur 29 (0, 0)) := by
  rcases h.2 with ⟨rfl, _⟩ | ⟨g, off, cap, cur, rfl, hb, hg, rest⟩
  · simp [Value.ownBlock] at hk
  · simp [Value.ownBlock] at hk; subst hk; exact ⟨cur, hg⟩
theorem Seg.lt (h : Seg w base v n xs) (k : Nat) (hk : v.ownBlock = some k) : base ≤ k ∧ k < w.heap.size := by
  rcases h.2 with ⟨rfl, _⟩ | ⟨g, off, cap, cur, rfl, hb, hg, rest⟩
  · simp [Value.ownBlock] at hk
  · simp [Value.ownBlock] at hk; subst hk; exact ⟨hb, lt_of_block hg⟩
theorem Seg.oneCell (h : Seg w base v n xs) : v.oneCell' = true := by
  rcases h.2 with ⟨rfl, _⟩ | ⟨g, off, cap, cur, rfl, _⟩ <;> rfl
theorem Seg.other (h : Seg w base v n xs) {a : Addr} (ha : v.ownBlock ≠ some a.block) (u : Value) : Seg (w.setCell a u) base v n xs :=
  h.kept fun k hk => Below.heap_setCell _ _ _ _ (fun e => ha (by rw [hk, e]))
theorem Seg.alloc (h : Seg w base v n xs) (o : Obj) : Seg (w.alloc o) base v n xs := h.kept fun k hk => Below.heap_alloc w o k (h.lt k hk).2
theorem Seg.drew (h : Seg w base v n xs) : Seg w.drew base v n xs := h
theorem Seg.form (h : Seg w base v n xs) (hn : 0 < n) : ∃ g off cap, v = .slice (some ⟨g, off, none⟩) n cap ∧ n ≤ cap ∧ cap ≤ maxLen := by
  rcases h.2 with ⟨_, h0⟩ | ⟨g, off, cap, cur, rfl, hb, hg, h1, h2, _⟩
  · omega
  · exact ⟨g, off, cap, rfl, h1, h2⟩
theorem Seg.cellAt {g off cap : Nat} (h : Seg w base (.slice (some ⟨g, off, none⟩) n cap) n xs) (j : Nat) (hj : j < n * 4) : w.cell? ⟨g, off + j, none⟩ = xs[j]? := by
  rcases h.2 with ⟨h', _⟩ | ⟨g', off', cap', cur, h', hb, hg, _, _, _, hc⟩
  · cases h'
  · cases h'
    rw [cell_of_row w g (off + j) cur 29 (0, 0) hg]; exact hc j hj
theorem Seg.room {g off cap : Nat} (h : Seg w base (.slice (some ⟨g, off, none⟩) n cap) n xs) : ∃ cur, w.heap[g]? = some (.cells cur 29 (0, 0)) ∧ base ≤ g ∧ n ≤ cap ∧ cap ≤ maxLen ∧ off + cap * 4 ≤ cur.size ∧ ∀ j, j < n * 4 → cur[off + j]? = xs[j]? := by
  rcases h.2 with ⟨h', _⟩ | ⟨g', off', cap', cur, h', hb, hg, r⟩
  · cases h'
  · cases h'
    exact ⟨cur, hg, hb, r⟩
theorem Seg.frozenAt {g off cap : Nat} (h : Seg w base (.slice (some ⟨g, off, none⟩) n cap) n xs) (j : Nat) : w.frozen? ⟨g, j, none⟩ = false := by
  obtain ⟨cur, hg, _⟩ := h.room
  simp [World.frozen?, hg]
/-- What is written outside of its room leaves it. -/
theorem Seg.away {u : Value} {m : Nat} {ys : List Value} (h : Seg w base v n xs) (hu : Seg w base u m ys) (ha : Away u v) (ho : Out u w w') (hk : ∀ k, v.ownBlock = some k → u.ownBlock ≠ some k → w'.heap[k]? = w.heap[k]?) : Seg w' base v n xs := by
  by_cases hb : ∃ k, v.ownBlock = some k ∧ u.ownBlock = some k
  · obtain ⟨k, h1, h2⟩ := hb
    refine ⟨h.1, ?_⟩
    rcases h.2 with h' | ⟨g, off, cap, cur, rfl, hb, hg, hn, hm, hs, hc⟩
    · exact .inl h'
    · rcases hu.2 with ⟨rfl, _⟩ | ⟨g', off', cap', cur', rfl, hb', hg', _⟩
      · cases h2
      · simp [Value.ownBlock] at h1 h2
        subst h1; subst h2
        obtain ⟨c2, q1, q2, q3⟩ := ho g' off' _ cap' cur rfl hg
        refine .inr ⟨g', off, cap, c2, rfl, hb, q1, hn, hm, by omega, fun j hj => ?_⟩
        rw [q3 (off + j) (by rcases ha g' off' _ cap' off _ cap rfl rfl with h | h <;> omega)]
        exact hc j hj
  · exact h.kept fun k hv => hk k hv (fun e => hb ⟨k, hv, e⟩)
/-- A store into it. -/
theorem Seg.stored {g off cap : Nat} (h : Seg w base (.slice (some ⟨g, off, none⟩) n cap) n xs) (j : Nat) (hj : j < cap * 4) (u : Value) :
    Seg (w.setCell ⟨g, off + j, none⟩ u) base (.slice (some ⟨g, off, none⟩) n cap) n (xs.set j u) ∧ Out (.slice (some ⟨g, off, none⟩) n cap) w (w.setCell ⟨g, off + j, none⟩ u) := by
  obtain ⟨cur, hg, hb, hn, hm, hs, hc⟩ := h.room
  have hg' := heap_setCell_same w g (off + j) cur 29 u hg
  refine ⟨⟨by rw [List.length_set]; exact h.1, .inr ⟨g, off, cap, _, rfl, hb, hg', hn, hm, by simpa using hs, fun i hi => ?_⟩⟩, ?_⟩
  · rw [Array.getElem?_setIfInBounds, List.getElem?_set]
    by_cases e : j = i
    · subst e; have := h.1; rw [if_pos rfl, if_pos rfl, if_pos (by omega), if_pos (by omega)]
    · rw [if_neg (by omega), if_neg e]; exact hc i hi
  · intro g2 off2 n2 c2 cur2 hv hg2
    cases hv
    rw [hg] at hg2
    cases hg2
    refine ⟨_, hg', by simp, fun i hi => ?_⟩
    rw [Array.getElem?_setIfInBounds, if_neg (by omega)]
end

/-- The arena at block bA: its store at bS, its nodes from the head of block g on, each node's attributes in a row of their own. -/
structure Ar (w : World) (base bA bS g cap : Nat) (ns : List NodeM) : Prop where
  arena : w.heap[bA]? = some (.cells #[.pointer (some ⟨bS, 0, none⟩)] 74 (0, 0))
  store : w.heap[bS]? = some (.cells #[.slice (some ⟨g, 0, none⟩) ns.length cap] 72 (0, 0))
  row : w.ownsRow base 37 12 (.slice (some ⟨g, 0, none⟩) ns.length cap) ns.length (nodeRow ns)
  lo1 : base ≤ bA
  lo2 : base ≤ bS
  pos : 0 < ns.length
  most : ns.length ≤ 32768
  attrs : ∀ (i : Nat) n, ns[i]? = some n → Seg w base n.av n.attrs.length (attrRow n.attrs)
  few : ∀ (i : Nat) n, ns[i]? = some n → n.attrs.length ≤ 1024
  apart : ∀ (i j : Nat) n m, i ≠ j → ns[i]? = some n → ns[j]? = some m → Away n.av m.av

section
variable {w : World} {base bA bS g cap : Nat} {ns : List NodeM}

theorem Ar.cA (h : Ar w base bA bS g cap ns) : w.cell? ⟨bA, 0, none⟩ = some (.pointer (some ⟨bS, 0, none⟩)) := cell_of_one h.arena
theorem Ar.cS (h : Ar w base bA bS g cap ns) : w.cell? ⟨bS, 0, none⟩ = some (.slice (some ⟨g, 0, none⟩) ns.length cap) := cell_of_one h.store
theorem Ar.fS (h : Ar w base bA bS g cap ns) : w.frozen? ⟨bS, 0, none⟩ = false := free_of_one h.store
theorem Ar.fg (h : Ar w base bA bS g cap ns) (j : Nat) : w.frozen? ⟨g, j, none⟩ = false := h.row.frozenAt j

theorem Ar.cell (h : Ar w base bA bS g cap ns) {i : Nat} {n : NodeM} (hi : ns[i]? = some n) (j : Nat) (hj : j < 12) : w.cell? ⟨g, i * 12 + j, none⟩ = n.cells[j]? := by
  have hlt : i < ns.length := (List.getElem?_eq_some_iff.1 hi).1
  rw [h.row.cellAt (i * 12 + j) (by omega), nodeRow, flat_get NodeM.cells 12 node_len ns i j hj, hi]; rfl

theorem Ar.cells12 (h : Ar w base bA bS g cap ns) {i : Nat} {n : NodeM} (hi : ns[i]? = some n) :
    w.cell? ⟨g, i * 12, none⟩ = some (.int .i64 n.kind) ∧ w.cell? ⟨g, i * 12 + 1, none⟩ = some (.int .i64 n.space) ∧ w.cell? ⟨g, i * 12 + 2, none⟩ = some (.string n.name) ∧
    w.cell? ⟨g, i * 12 + 3, none⟩ = some n.av ∧ w.cell? ⟨g, i * 12 + 4, none⟩ = some (.string n.data) ∧ w.cell? ⟨g, i * 12 + 5, none⟩ = some (.string n.system) ∧
    w.cell? ⟨g, i * 12 + 6, none⟩ = some (.int .i64 n.parent) ∧ w.cell? ⟨g, i * 12 + 7, none⟩ = some (.int .i64 n.first) ∧ w.cell? ⟨g, i * 12 + 8, none⟩ = some (.int .i64 n.last) ∧
    w.cell? ⟨g, i * 12 + 9, none⟩ = some (.int .i64 n.prev) ∧ w.cell? ⟨g, i * 12 + 10, none⟩ = some (.int .i64 n.next) ∧ w.cell? ⟨g, i * 12 + 11, none⟩ = some (.int .i64 n.inner) :=
  ⟨h.cell hi 0 (by omega), h.cell hi 1 (by omega), h.cell hi 2 (by omega), h.cell hi 3 (by omega), h.cell hi 4 (by omega), h.cell hi 5 (by omega), h.cell hi 6 (by omega), h.cell hi 7 (by omega),
    h.cell hi 8 (by omega), h.cell hi 9 (by omega), h.cell hi 10 (by omega), h.cell hi 11 (by omega)⟩

/-- The block of the nodes' row. -/
theorem Ar.blockg (h : Ar w base bA bS g cap ns) : ∃ cur, w.heap[g]? = some (.cells cur 37 (0, 0)) := by
  rcases h.row.2 with ⟨h', _⟩ | ⟨g', cap', cur, h', _, hg, _⟩
  · simp at h'
  · simp only [Value.slice.injEq, Option.some.injEq, Addr.mk.injEq, and_true, true_and] at h'
    obtain ⟨rfl, rfl⟩ := h'
    exact ⟨cur, hg⟩

theorem Ar.neAg (h : Ar w base bA bS g cap ns) : bA ≠ g := by
  obtain ⟨cur, hg⟩ := h.blockg
  intro e; subst e; have := h.arena; rw [hg] at this; simp at this
theorem Ar.neSg (h : Ar w base bA bS g cap ns) : bS ≠ g := by
  obtain ⟨cur, hg⟩ := h.blockg
  intro e; subst e; have := h.store; rw [hg] at this; simp at this
theorem Ar.neAS (h : Ar w base bA bS g cap ns) : bA ≠ bS := by
  intro e; subst e; have := h.store; rw [h.arena] at this; simp at this

theorem ownsRow_block {w : World} {base : Nat} {e : TypeId} {size : Nat} {v : Value} {n : Nat} {xs : List Value} (h : w.ownsRow base e size v n xs) {k : Nat} (hk : v.ownBlock = some k) : ∃ cur, w.heap[k]? = some (.cells cur e (0, 0)) := by
  rcases h.2 with ⟨h', _⟩ | ⟨g', cap', cur, h', _, hg, _⟩
  · subst h'; simp [Value.ownBlock] at hk
  · subst h'; simp [Value.ownBlock] at hk; subst hk; exact ⟨cur, hg⟩

theorem Ar.neAttr (h : Ar w base bA bS g cap ns) {i : Nat} {n : NodeM} (hi : ns[i]? = some n) : n.av.ownBlock ≠ some g ∧ n.av.ownBlock ≠ some bS ∧ n.av.ownBlock ≠ some bA := by
  refine ⟨fun e => ?_, fun e => ?_, fun e => ?_⟩ <;> obtain ⟨cur, hc⟩ := (h.attrs i n hi).block e
  · obtain ⟨cu, hg⟩ := h.blockg; rw [hc] at hg; simp at hg
  · have := h.store; rw [hc] at this; simp at this
  · have := h.arena; rw [hc] at this; simp at this

theorem Ar.lt (h : Ar w base bA bS g cap ns) : bA < w.heap.size ∧ bS < w.heap.size ∧ g < w.heap.size := by
  obtain ⟨cur, hg⟩ := h.blockg
  exact ⟨lt_of_block h.arena, lt_of_block h.store, lt_of_block hg⟩

/-- The blocks of an arena. -/
def foot (bA bS g : Nat) (ns : List NodeM) (k : Nat) : Prop := k = bA ∨ k = bS ∨ k = g ∨ ∃ n ∈ ns, n.av.ownBlock = some k

/-- Where the blocks of an arena stay as they are, it stays as it is. -/
theorem Ar.same {w' : World} (h : Ar w base bA bS g cap ns) (hb : ∀ k, foot bA bS g ns k → w'.heap[k]? = w.heap[k]?) : Ar w' base bA bS g cap ns := by
  have own : ∀ {e : TypeId} {size : Nat} {v : Value} {n : Nat} {xs : List Value}, w.ownsRow base e size v n xs → (∀ k, v.ownBlock = some k → w'.heap[k]? = w.heap[k]?) → w'.ownsRow base e size v n xs := by
    intro e size v n xs h hk
    refine ⟨h.1, ?_⟩
    rcases h.2 with hn | ⟨g', cap', cur, rfl, hbb, hgg, rest⟩
    · exact .inl hn
    · exact .inr ⟨g', cap', cur, rfl, hbb, by rw [hk g' rfl]; exact hgg, rest⟩
  exact ⟨by rw [hb bA (.inl rfl)]; exact h.arena, by rw [hb bS (.inr (.inl rfl))]; exact h.store, own h.row (fun k hk => by simp [Value.ownBlock] at hk; subst hk; exact hb _ (.inr (.inr (.inl rfl)))),
    h.lo1, h.lo2, h.pos, h.most, fun i n hi => (h.attrs i n hi).kept (fun k hk => hb k (.inr (.inr (.inr ⟨n, List.mem_of_getElem? hi, hk⟩)))), h.few, h.apart⟩

theorem Ar.foot_lt (h : Ar w base bA bS g cap ns) {k : Nat} (hk : foot bA bS g ns k) : base ≤ k ∧ k < w.heap.size := by
  rcases hk with rfl | rfl | rfl | ⟨n, hn, hk⟩
  · exact ⟨h.lo1, h.lt.1⟩
  · exact ⟨h.lo2, h.lt.2.1⟩
  · exact (h.row.lt _ rfl)
  · obtain ⟨i, hi⟩ := List.mem_iff_getElem?.1 hn; exact (h.attrs i n hi).lt k hk

theorem Ar.below {w' : World} (h : Ar w base bA bS g cap ns) (hb : Below w.heap.size w w') : Ar w' base bA bS g cap ns :=
  h.same fun _ hk => hb.block _ (h.foot_lt hk).2

theorem Ar.alloc (h : Ar w base bA bS g cap ns) (o : Obj) : Ar (w.alloc o) base bA bS g cap ns := h.below ((Below.refl _ w).alloc (Nat.le_refl _) o)
theorem Ar.drew (h : Ar w base bA bS g cap ns) : Ar w.drew base bA bS g cap ns := h.below (Below.refl _ w).drew

/-- A store into one field of one node. -/
theorem Ar.set (h : Ar w base bA bS g cap ns) {i : Nat} {n m : NodeM} (hi : ns[i]? = some n) (j : Nat) (hj : j < 12) (v : Value) (hm : m.cells = n.cells.set j v) (hav : m.av = n.av) (hat : m.attrs = n.attrs) :
    Ar (w.setCell ⟨g, i * 12 + j, none⟩ v) base bA bS g cap (ns.set i m) := by
  have hlt : i < ns.length := (List.getElem?_eq_some_iff.1 hi).1
  have hst := h.row.stored (i * 12 + j) v
  have hoth : ∀ k, k ≠ g → (w.setCell ⟨g, i * 12 + j, none⟩ v).heap[k]? = w.heap[k]? := fun k hk => Below.heap_setCell _ _ _ _ hk
  have old : ∀ (a : Nat) (x : NodeM), (ns.set i m)[a]? = some x → ∃ y, ns[a]? = some y ∧ x.av = y.av ∧ x.attrs = y.attrs := by
    intro a x hx
    by_cases e : i = a
    · subst e; rw [List.getElem?_set_self hlt] at hx; simp at hx; subst hx; exact ⟨n, hi, hav, hat⟩
    · rw [List.getElem?_set_ne e] at hx; exact ⟨x, hx, rfl, rfl⟩
  refine ⟨by rw [hoth bA h.neAg]; exact h.arena, by rw [hoth bS h.neSg, List.length_set]; exact h.store, ?_, h.lo1, h.lo2, by simpa using h.pos, by simpa using h.most, ?_, ?_, ?_⟩
  · rw [List.length_set, nodeRow, ← flat_set NodeM.cells 12 node_len ns i j hj n m v hi hm]; exact hst.1
  · intro a x hx
    obtain ⟨y, hy, e1, e2⟩ := old a x hx
    rw [e1, e2]
    exact (h.attrs a y hy).other (h.neAttr hy).1 v
  · intro a x hx
    obtain ⟨y, hy, e1, e2⟩ := old a x hx
    rw [e2]; exact h.few a y hy
  · intro a b x z hab hx hz
    obtain ⟨y, hy, e1, _⟩ := old a x hx
    obtain ⟨y', hy', e1', _⟩ := old b z hz
    rw [e1, e1']; exact h.apart a b y y' hab hy hy'
end
end Go.Proofs.Ytlbkoafeedlfaaa

namespace Go.Proofs.Ytlbkoafeedlfaaa
open Go.RowKit
variable {w : World} {base bA bS g cap : Nat} {ns : List NodeM}

theorem made_yes (h : Ar w base bA bS g cap ns) : Calls Try.prog 53 #[.pointer (some ⟨bA, 0, none⟩)] w fun e w' => e = .returned (.bool true) ∧ w = w' := by
  have hA := h.cA
  clear h
  go_enter Try.func53, Try.ntmps53
  go_wp2
  go_ret
  exact ⟨rfl, rfl⟩

def hasM (ns : List NodeM) (k : Int) : Bool := decide (0 ≤ k ∧ k < ns.length)

theorem has_any (h : Ar w base bA bS g cap ns) (k : Int) : Calls Try.prog 54 #[.pointer (some ⟨bA, 0, none⟩), .int .i64 k] w fun e w' => e = .returned (.bool (hasM ns k)) ∧ w = w' := by
  have hA := h.cA
  have hS := h.cS
  have hn := h.most
  clear h
  go_enter Try.func54, Try.ntmps54
  go_wp2
  all_goals go_ret
  · refine ⟨?_, rfl⟩
    have h0 : 0 ≤ k := by assumption
    simp [hasM, h0]
  · refine ⟨?_, rfl⟩
    have h0 : k < 0 := by assumption
    have : ¬ (0 ≤ k ∧ k < ns.length) := by omega
    simp [hasM, this]

theorem len_any (h : Ar w base bA bS g cap ns) : Calls Try.prog 17 #[.pointer (some ⟨bA, 0, none⟩)] w fun e w' => e = .returned (.int .i64 ns.length) ∧ w = w' := by
  have hA := h.cA
  have hS := h.cS
  have hn := h.most
  clear h
  go_enter Try.func17, Try.ntmps17
  go_wp2
  go_ret
  exact ⟨rfl, rfl⟩

def parentM (k : Int) : Bool := k == 0 || k == 1 || k == 5

theorem isParent_any (k : Int) : Calls Try.prog 129 #[.int .i64 k] w fun e w' => e = .returned (.bool (parentM k)) ∧ w = w' := by
  go_enter Try.func129, Try.ntmps129
  go_wp2
  all_goals go_ret
  all_goals refine ⟨?_, rfl⟩
  all_goals simp [parentM, *]

def hostM (ns : List NodeM) (k : Int) : Int := if 0 < k ∧ k < ns.length ∧ (ns[k.toNat - 1]?).map (·.inner) = some k then k - 1 else -1

theorem host_any (h : Ar w base bA bS g cap ns) (k : Int) : Calls Try.prog 51 #[.pointer (some ⟨bA, 0, none⟩), .int .i64 k] w fun e w' => e = .returned (.int .i64 (hostM ns k)) ∧ w = w' := by
  have hA := h.cA
  have hS := h.cS
  have hn := h.most
  by_cases h1 : 0 < k
  · by_cases h2 : k < ns.length
    · have hlt : k.toNat - 1 < ns.length := by omega
      obtain ⟨n, hi⟩ : ∃ n, ns[k.toNat - 1]? = some n := ⟨_, List.getElem?_eq_getElem hlt⟩
      have hc := (h.cells12 hi).2.2.2.2.2.2.2.2.2.2.2
      have hM : hostM ns k = if n.inner = k then k - 1 else -1 := by simp [hostM, h1, h2, hi]
      rw [hM]
      clear hM hi h
      have hlt2 : k - 1 < ns.length := by omega
      by_cases h3 : n.inner = k
      · have h4 : (n.inner != k) = false := by simp [h3]
        go_enter Try.func51, Try.ntmps51
        go_wp2
        go_ret
        exact ⟨rfl, rfl⟩
      · have h4 : (n.inner != k) = true := by simp [h3]
        go_enter Try.func51, Try.ntmps51
        go_wp2
        go_ret
        exact ⟨rfl, rfl⟩
    · have hM : hostM ns k = -1 := by simp [hostM, h2]
      rw [hM]
      clear hM h
      go_enter Try.func51, Try.ntmps51
      go_wp2
      go_ret
      exact ⟨rfl, rfl⟩
  · have hM : hostM ns k = -1 := by simp [hostM, h1]
    rw [hM]
    clear hM h
    go_enter Try.func51, Try.ntmps51
    go_wp2
    go_ret
    exact ⟨rfl, rfl⟩

/-- What is right above node i. -/
def overM (ns : List NodeM) (i : Nat) (n : NodeM) : Int := if n.kind = 5 then hostM ns i else n.parent

theorem over_any (h : Ar w base bA bS g cap ns) (i : Nat) (n : NodeM) (hi : ns[i]? = some n) :
    Calls Try.prog 104 #[.pointer (some ⟨bA, 0, none⟩), .int .i64 i] w fun e w' => e = .returned (.int .i64 (overM ns i n)) ∧ w = w' := by
  have hlt : i < ns.length := (List.getElem?_eq_some_iff.1 hi).1
  have hA := h.cA
  have hS := h.cS
  have hn := h.most
  have hc0 := (h.cells12 hi).1
  have hc6 := (h.cells12 hi).2.2.2.2.2.2.1
  have hh := host_any h i
  by_cases h5 : n.kind = 5
  · have h4 : (n.kind == 5) = true := by simp [h5]
    have hM : overM ns i n = hostM ns i := by simp [overM, h5]
    rw [hM]
    clear hM h5 h hi hc6
    go_enter Try.func104, Try.ntmps104
    go_wp2_with (go_at_call 51; refine hh.mono ?_; rintro e w' ⟨rfl, rfl⟩)
    go_ret
    exact ⟨rfl, rfl⟩
  · have h4 : (n.kind == 5) = false := by simp [h5]
    have hM : overM ns i n = n.parent := by simp [overM, h5]
    rw [hM]
    clear hM h5 h hi hh
    go_enter Try.func104, Try.ntmps104
    go_wp2
    go_ret
    exact ⟨rfl, rfl⟩

/-- The cells of a node of a kind without links. -/
def blankM (k : Int) : NodeM := { kind := k, space := 0, name := ⟨#[]⟩, av := .slice none 0 0, data := ⟨#[]⟩, system := ⟨#[]⟩, parent := -1, first := -1, last := -1, prev := -1, next := -1, inner := -1, attrs := [] }

theorem blank_any (k : Int) : Calls Try.prog 36 #[.int .i64 k] w fun e w' =>
    e = .returned (.agg #[.int .i64 k, .int .i64 0, .string ⟨#[]⟩, .slice none 0 0, .string ⟨#[]⟩, .string ⟨#[]⟩, .int .i64 (-1), .int .i64 (-1), .int .i64 (-1), .int .i64 (-1), .int .i64 (-1), .int .i64 (-1)]) ∧
      w.alloc (.cells #[.int .i64 k, .int .i64 0, .string ⟨#[]⟩, .slice none 0 0, .string ⟨#[]⟩, .string ⟨#[]⟩, .int .i64 (-1), .int .i64 (-1), .int .i64 (-1), .int .i64 (-1), .int .i64 (-1), .int .i64 (-1)] 37) = w' := by
  go_enter Try.func36, Try.ntmps36
  go_wp2
  exact bodyPost_ret (v := .agg #[.int .i64 k, .int .i64 0, .string ⟨#[]⟩, .slice none 0 0, .string ⟨#[]⟩, .string ⟨#[]⟩, .int .i64 (-1), .int .i64 (-1), .int .i64 (-1), .int .i64 (-1), .int .i64 (-1), .int .i64 (-1)]) (by simp [results, Try.results36, go_sem]) rfl ⟨rfl, rfl⟩
end Go.Proofs.Ytlbkoafeedlfaaa
