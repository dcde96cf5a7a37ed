/-
  Lists of attributes in memory; whether two lists are the same.
-/
import Derived.Test.YtgbinemombgckaaDoorAc
import Derived.Deep.AppendLies
import Derived.Deep.AppendSrc
import Derived.Deep.Upon
import Derived.OwnWalk
namespace Go.Proofs.YtgbinemombgckaaDoor
open Go.RowKit Go.Lib

structure AttrM where
  space : Int
  pre : ByteArray
  name : ByteArray
  val : ByteArray

def AttrM.cells (a : AttrM) : List Value := [.int .i64 a.space, .string a.pre, .string a.name, .string a.val]
def AttrM.agg (a : AttrM) : Value := .agg #[.int .i64 a.space, .string a.pre, .string a.name, .string a.val]
def attrRow (l : List AttrM) : List Value := l.flatMap AttrM.cells

theorem flat_len {α : Type} (f : α → List Value) (m : Nat) (hm : ∀ x, (f x).length = m) (l : List α) : (l.flatMap f).length = l.length * m := by
  induction l with
  | nil => simp
  | cons x l ih => simp [ih, hm, Nat.add_mul]; omega
theorem flat_get {α : Type} (f : α → List Value) (m : Nat) (hm : ∀ x, (f x).length = m) (l : List α) (i j : Nat) (hj : j < m) :
    (l.flatMap f)[i * m + j]? = (l[i]?).bind fun x => (f x)[j]? := by
  induction l generalizing i with
  | nil => simp
  | cons x l ih =>
    cases i with
    | zero => simp only [List.flatMap_cons, Nat.zero_mul, Nat.zero_add]; rw [List.getElem?_append_left (by rw [hm]; exact hj)]; simp
    | succ i =>
      simp only [List.flatMap_cons]
      rw [List.getElem?_append_right (by rw [hm, Nat.add_mul]; omega), hm]
      have e : (i + 1) * m + j - m = i * m + j := by rw [Nat.add_mul]; omega
      rw [e, ih]; simp
theorem attr_len (a : AttrM) : a.cells.length = 4 := rfl
theorem attrRow_len (l : List AttrM) : (attrRow l).length = l.length * 4 := flat_len AttrM.cells 4 attr_len l
theorem attrRow_snoc (l : List AttrM) (x : AttrM) : attrRow (l ++ [x]) = attrRow l ++ x.cells := by simp [attrRow]

theorem ownsRow_kept {w w' : World} {base : Nat} {e : TypeId} {size : Nat} {v : Value} {n : Nat} {xs : List Value} (h : w.ownsRow base e size v n xs) (hk : ∀ k, v.ownBlock = some k → w'.heap[k]? = w.heap[k]?) : w'.ownsRow base e size v n xs := by
  refine ⟨h.1, ?_⟩
  rcases h.2 with hn | ⟨g', cap', cur, rfl, hbb, hgg, rest⟩
  · exact .inl hn
  · exact .inr ⟨g', cap', cur, rfl, hbb, by rw [hk g' rfl]; exact hgg, rest⟩
theorem ownsRow_block {w : World} {base : Nat} {e : TypeId} {size : Nat} {v : Value} {n : Nat} {xs : List Value} (h : w.ownsRow base e size v n xs) {k : Nat} (hk : v.ownBlock = some k) : ∃ cur, w.heap[k]? = some (.cells cur e (0, 0)) := by
  rcases h.2 with ⟨h', _⟩ | ⟨g', cap', cur, h', _, hg, _⟩
  · subst h'; simp [Value.ownBlock] at hk
  · subst h'; simp [Value.ownBlock] at hk; subst hk; exact ⟨cur, hg⟩
theorem ownsRow_base {w : World} {base : Nat} {e : TypeId} {size : Nat} {v : Value} {n : Nat} {xs : List Value} (h : w.ownsRow base e size v n xs) {k : Nat} (hk : some k = v.ownBlock) : base ≤ k := by
  rcases h.2 with ⟨h', _⟩ | ⟨g', cap', cur, h', hb, _⟩
  · subst h'; simp [Value.ownBlock] at hk
  · subst h'; simp [Value.ownBlock] at hk; subst hk; exact hb
theorem ownsRow_more {w w' : World} {base : Nat} {e : TypeId} {size : Nat} {v : Value} {n : Nat} {xs : List Value} (h : w.ownsRow base e size v n xs) (hb : Below w.heap.size w w') : w'.ownsRow base e size v n xs :=
  ownsRow_kept h fun k hk => by obtain ⟨cur, hc⟩ := ownsRow_block h hk; exact hb.block k (lt_of_block hc)

/-- A slice of attributes as it is read: its length, and where its cells lie, if there are any. -/
structure AttrsIn (w : World) (a : Option Addr) (l : List AttrM) : Prop where
  cells : ∀ (i : Nat) x, l[i]? = some x → ∃ b off, a = some ⟨b, off, none⟩ ∧ w.cell? ⟨b, off + i * 4, none⟩ = some (.int .i64 x.space) ∧ w.cell? ⟨b, off + i * 4 + 1, none⟩ = some (.string x.pre) ∧
    w.cell? ⟨b, off + i * 4 + 2, none⟩ = some (.string x.name) ∧ w.cell? ⟨b, off + i * 4 + 3, none⟩ = some (.string x.val)
theorem AttrsIn.below {w w' : World} {a : Option Addr} {l : List AttrM} (h : AttrsIn w a l) (hb : Below w.heap.size w w') : AttrsIn w' a l := by
  refine ⟨fun i x hi => ?_⟩
  obtain ⟨b, off, e, c0, c1, c2, c3⟩ := h.cells i x hi
  have hlt : b < w.heap.size := World.block_lt_of_cell? w _ c0
  exact ⟨b, off, e, (hb.cell (p := ⟨b, off + i * 4, none⟩) hlt).trans c0, (hb.cell (p := ⟨b, off + i * 4 + 1, none⟩) hlt).trans c1, (hb.cell (p := ⟨b, off + i * 4 + 2, none⟩) hlt).trans c2, (hb.cell (p := ⟨b, off + i * 4 + 3, none⟩) hlt).trans c3⟩
theorem attrs_oneCell (l : List AttrM) : ∀ u ∈ attrRow l, u.oneCell' = true := by
  intro u hu
  simp only [attrRow, List.mem_flatMap] at hu
  obtain ⟨x, _, hx⟩ := hu
  simp [AttrM.cells] at hx
  rcases hx with rfl | rfl | rfl | rfl <;> rfl
theorem AttrsIn.row {w : World} {b off : Nat} {l : List AttrM} (h : AttrsIn w (some ⟨b, off, none⟩) l) : ∀ j v, (attrRow l)[j]? = some v → w.cell? ((⟨b, off, none⟩ : Addr).add j) = some v := by
  intro j v hv
  have hadd : (⟨b, off, none⟩ : Addr).add j = ⟨b, off + j, none⟩ := by unfold Addr.add; split <;> simp_all
  rw [hadd]
  have hlen : (attrRow l).length = l.length * 4 := flat_len AttrM.cells 4 attr_len l
  have hj : j < l.length * 4 := by have := (List.getElem?_eq_some_iff.1 hv).1; omega
  obtain ⟨i, r, rfl, hr⟩ : ∃ i r, j = i * 4 + r ∧ r < 4 := ⟨j / 4, j % 4, by omega, by omega⟩
  have hi : i < l.length := by omega
  have hx : l[i]? = some l[i] := List.getElem?_eq_getElem hi
  rw [attrRow, flat_get AttrM.cells 4 attr_len l i r hr, hx] at hv
  obtain ⟨b', off', e, c0, c1, c2, c3⟩ := h.cells i l[i] hx
  simp only [Option.some.injEq, Addr.mk.injEq, and_true] at e
  obtain ⟨rfl, rfl⟩ := e
  match r, hr with
  | 0, _ => simp [AttrM.cells] at hv; subst hv; simpa using c0
  | 1, _ => simp [AttrM.cells] at hv; subst hv; exact c1
  | 2, _ => simp [AttrM.cells] at hv; subst hv; exact c2
  | 3, _ => simp [AttrM.cells] at hv; subst hv; exact c3
theorem Addr.of_lt {w : World} {a : Option Addr} {l : List AttrM} (h : AttrsIn w a l) (hl : 0 < l.length) : ∃ b off, a = some ⟨b, off, none⟩ := by
  obtain ⟨b, off, e, _⟩ := h.cells 0 l[0] (List.getElem?_eq_getElem hl)
  exact ⟨b, off, e⟩
/-- The attributes of a row of one's own, as a slice that is read. -/
theorem ownsRow_attrs {w : World} {base : Nat} {v : Value} {l : List AttrM} (h : w.ownsRow base 29 4 v l.length (attrRow l)) : ∃ a c, v = .slice a l.length c ∧ AttrsIn w a l := by
  rcases h.2 with ⟨rfl, h0⟩ | ⟨g, cap, cur, rfl, _, hg, _⟩
  · have : l = [] := List.eq_nil_of_length_eq_zero h0
    subst this
    exact ⟨none, 0, rfl, ⟨fun i x hi => by simp at hi⟩⟩
  · refine ⟨some ⟨g, 0, none⟩, cap, rfl, ⟨fun i x hi => ⟨g, 0, rfl, ?_⟩⟩⟩
    have hlt : i < l.length := (List.getElem?_eq_some_iff.1 hi).1
    have hc : ∀ j, j < 4 → w.cell? ⟨g, i * 4 + j, none⟩ = x.cells[j]? := fun j hj => by
      rw [h.cellAt (i * 4 + j) (by omega), attrRow, flat_get AttrM.cells 4 attr_len l i j hj, hi]; rfl
    simp only [Nat.zero_add]
    exact ⟨hc 0 (by omega), hc 1 (by omega), hc 2 (by omega), hc 3 (by omega)⟩

theorem infoA : (Tryd.prog.info? 29).map (fun i => (i.zero, i.size, i.bytes)) = some (some (.agg #[.int .i64 0, .string ⟨#[]⟩, .string ⟨#[]⟩, .string ⟨#[]⟩]), 4, 56) := by kernel_rfl

/-- A list, whatever its length, appended to an empty one. -/
theorem cp_append {P : Program} {w : World} {ops : Array Oper} {rest : List Oper} {o : Oper} {a : Act} {Q : Exit → Act → World → Prop} (hgd : o.guard = none) (s x : Operand) (t : TypeId)
    (ho : o.op = .call { callee := .builtin .append, args := #[s, x], argTypes := #[t, t] })
    (e : TypeId) (i : TypeInfo) (z : Value) (size bytes : Nat) (ht : P.underlying t = some (.slice e)) (hi : P.info? e = some i) (hz : i.zero = some z)
    (hsize : i.size = size) (hby : i.bytes = bytes) (hzs : z.cells.size = size) (hsz : 0 < size)
    (k : Nat) (hs : a.eval s = .slice (some ⟨k, 0, none⟩) 0 0) (hk : w.heap[k]? = some (.cells #[] e (0, 0)))
    (src : Option Addr) (m c : Nat) (news : List Value) (hx : a.eval x = .slice src m c) (hl : news.length = m * size) (hnews : ∀ b off, src = some ⟨b, off, none⟩ → ∀ j u, news[j]? = some u → w.cell? ((⟨b, off, none⟩ : Addr).add j) = some u)
    (hsrc : 0 < m → ∃ b off, src = some ⟨b, off, none⟩) (h1 : ∀ u ∈ news, u.oneCell' = true) (h63 : m ≤ maxLen) (hbytes : m * bytes ≤ 140737488355328)
    (h : ∀ g cap w', w'.ownsRow k e size (.slice (some ⟨g, 0, none⟩) m cap) m news → w.grownBy w' (some k) → (g = k ∨ g = w.heap.size) → g < w'.heap.size → wpList P ops Q rest (a.put o.dst (.slice (some ⟨g, 0, none⟩) m cap)) w') : wpList P ops Q (o :: rest) a w := by
  have hklt := lt_of_block hk
  have hown : w.ownsRow k e size (.slice (some ⟨k, 0, none⟩) 0 0) 0 [] := ⟨by simp, .inr ⟨k, 0, #[], rfl, Nat.le_refl _, hk, Nat.le_refl _, by simp [maxLen], by simp, by simp⟩⟩
  by_cases hm : 0 < m
  · obtain ⟨b, off, rfl⟩ := hsrc hm
    refine wpList_append_lies w hgd s x t ho k e i z size bytes ht hi hz hsize hby hzs hsz _ 0 [] hs hown ⟨b, off, none⟩ m c news hx hl (hnews b off rfl) h1 hm (by omega) (by simpa using hbytes) (Nat.le_of_lt hklt) _ rfl ?_
    intro g cap w' h2 h3 h4 h5
    simp only [Nat.zero_add, List.nil_append] at h2 ⊢
    refine h g cap w' h2 h3 (h4.imp (fun e => ?_) id) h5
    simp [Value.ownBlock] at e
    exact e.symm
  · obtain rfl : m = 0 := by omega
    obtain rfl : news = [] := List.eq_nil_of_length_eq_zero (by omega)
    have hS : Src P i.size t (.slice src 0 c) 0 [] w := by
      cases src with
      | none => exact Src.ofNil w ht c
      | some ad => exact Src.ofSlice w ht ad 0 c [] (by simp) (fun j u hu => by simp at hu) (by simp)
    have hr := run_append_nothing (P := P) w t t o.type e i ht hi (some ⟨k, 0, none⟩) 0 0 (Nat.le_refl _) (.slice src 0 c) hS
    refine wpList_plain hgd fun K hK => ?_
    unfold Oper.wp execOp
    simp only [ho, resolve, invoke, builtin, Sem.run_bind, Sem.run_pure, Result.andThen_ok, List.map_toArray, List.map_cons, List.map_nil, hs, hx, hr]
    exact hK _ _ (h k 0 w hown ⟨rfl, rfl, rfl, Nat.le_refl _, fun _ _ _ => rfl⟩ (.inl rfl) hklt)

/-! Whether two attributes are the same. -/
def attrEq (a b : AttrM) : Bool := a.space == b.space && a.pre.toList == b.pre.toList && a.name.toList == b.name.toList && a.val.toList == b.val.toList
theorem attrEq_self (a : AttrM) : attrEq a a = true := by simp [attrEq]
theorem beq_toListBytes (a b : ByteArray) : (a.toList == b.toList) = decide (a.toList = b.toList) := by rw [Bool.eq_iff_iff]; simp
theorem eqAttr (a b : AttrM) (w : World) : (Op.equalIn 10000 29 (.agg #[.int .i64 a.space, .string a.pre, .string a.name, .string a.val]) (.agg #[.int .i64 b.space, .string b.pre, .string b.name, .string b.val])).run Tryd.prog w = .ok (attrEq a b) w := by
  have u3 := Tryd.underlying3
  have a3 := Tryd.isAgg3
  have z3 := Tryd.sizeOf3
  have u9 := Tryd.underlying9
  have a9 := Tryd.isAgg9
  have z9 := Tryd.sizeOf9
  have hS : Tryd.prog.underlying 29 = some (.struct (Tryd.prog.fieldsOf 29)) := by kernel_rfl
  have hp : Tryd.prog.stoodInHeld 29 = false := by kernel_rfl
  rw [show (10000 : Nat) = 9999 + 1 from rfl, run_equalIn_agg w 9999 29 _ _ hS hp]
  simp only [Program.fieldsOf, Tryd.underlying29]
  go_simp
  unfold attrEq
  simp only [beq_toListBytes]
  by_cases h0 : a.space = b.space <;> by_cases h1 : a.pre.toList = b.pre.toList <;> by_cases h2 : a.name.toList = b.name.toList <;> by_cases h3 : a.val.toList = b.val.toList <;> simp [h0, h1, h2, h3]
theorem neqAttr (a b : AttrM) (w : World) : (binOp .neq 29 (.agg #[.int .i64 a.space, .string a.pre, .string a.name, .string a.val]) (.agg #[.int .i64 b.space, .string b.pre, .string b.name, .string b.val])).run Tryd.prog w = .ok (.bool (!attrEq a b)) w := by
  rw [run_neq_struct, eqAttr]; rfl
theorem guardA : Tryd.prog.eqGuardType Tryd.prog.depth 29 = false := by kernel_rfl

set_option maxHeartbeats 4000000 in
set_option maxRecDepth 10000 in
theorem same_any {w : World} (a b : Option Addr) (ca cb : Nat) (l : List AttrM) (n : Nat) (hln : l.length = n) (ha : AttrsIn w a l) (hb : AttrsIn w b l) (hl : n * 56 ≤ 140737488351232) :
    Calls Tryd.prog 6 #[.slice a n ca, .slice b n cb] w fun e w' => e = .returned (.bool true) ∧ Below w.heap.size w w' := by
  have HA := hide ha
  have HB := hide hb
  have hlz : (n : Int) ≤ 140737488355328 := by omega
  have HL := hide hln
  clear ha hb hl hln
  go_enter Tryd.func6, Tryd.ntmps6
  go_wp2
  go_loopg [5] n (fun k s wx => ∃ j : Nat, s = .int .i64 j ∧ j + k = n ∧ Below w.heap.size w wx)
  case atStart => exact ⟨0, rfl, by omega, Below.refl _ _⟩
  case round =>
    obtain ⟨j, rfl, hjk, hb⟩ := hrel
    by_cases hj : j < n
    · obtain ⟨x, hx⟩ : ∃ x, l[j]? = some x := ⟨_, List.getElem?_eq_getElem (by rw [unhide HL]; exact hj)⟩
      have hjz : (j : Int) < (n : Int) := by omega
      obtain ⟨ba, oa, rfl, a0, a1, a2, a3⟩ := ((unhide HA).below hb).cells j _ hx
      obtain ⟨bb, ob, rfl, b0, b1, b2, b3⟩ := ((unhide HB).below hb).cells j _ hx
      have HBW := hide hb
      clear hx hb
      have hg := guardA
      have hq := fun W => neqAttr x x W
      rw [attrEq_self] at hq
      go_wp2
      go_quiet (fail)
      go_wp2
      go_roundg (gk - 1)
      case measure => omega
      case rel => exact ⟨j + 1, by go_num, by omega, below_dn (unhide HBW) _⟩
    · have hjz : ¬ (j : Int) < (n : Int) := by omega
      obtain rfl : j = n := by omega
      have HBW := hide hb
      clear hb
      go_wp2
      go_ret
      exact ⟨rfl, unhide HBW⟩
end Go.Proofs.YtgbinemombgckaaDoor
