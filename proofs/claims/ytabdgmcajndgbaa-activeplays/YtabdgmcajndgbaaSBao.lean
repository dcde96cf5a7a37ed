/-
  Node: what there is to say of a node, its attributes in new memory. Doctype, Fragment, SetData; Node of what is no node. Plain nodes of the document's arena; what a node more makes of them. How the document's own arena lies in memory: a row of nodes, each with a list of attributes and one of children that nothing writes to again. The document's own arena: a child's place, an attribute's place, long texts.
-/
import Derived.Test.YtabdgmcajndgbaaSBan
import Derived.Deep.LoopGhost
namespace Go.Proofs.Ytabdgmcajndgbaa
open Go.RowKit

/-- The attributes of a row of one's own, as a slice that is read. -/
theorem ownsRow_attrs {w : World} {base : Nat} {v : Value} {l : List AttrM} (h : w.ownsRow base 86 4 v l.length (attrRow l)) : ∃ a c, v = .slice a l.length c ∧ AttrsIn w a l := by
  rcases h.2 with ⟨rfl, h0⟩ | ⟨g, cap, cur, rfl, _, hg, _⟩
  · have : l = [] := List.eq_nil_of_length_eq_zero h0
    subst this
    exact ⟨none, 0, rfl, ⟨fun i x hi => by simp at hi⟩⟩
  · refine ⟨some ⟨g, 0, none⟩, cap, rfl, ⟨fun i x hi => ⟨g, 0, rfl, ?_⟩⟩⟩
    have hlt : i < l.length := (List.getElem?_eq_some_iff.1 hi).1
    have hc : ∀ j, j < 4 → w.cell? ⟨g, i * 4 + j, none⟩ = x.cells[j]? := fun j hj => by
      rw [h.cellAt (i * 4 + j) (by omega), attrRow, flat_get AttrM.cells 4 attr_len l i j hj, hi]; rfl
    simp only [Nat.zero_add]
    exact ⟨hc 0 (by omega), hc 1 (by omega), hc 2 (by omega), hc 3 (by omega)⟩

def nodeV (n : NodeM) (av : Value) : Value := .agg { n with av := av }.cells.toArray
def nodeZ : Value := .agg #[.int .i64 0, .int .i64 0, .string ⟨#[]⟩, .slice none 0 0, .string ⟨#[]⟩, .string ⟨#[]⟩, .int .i64 0, .int .i64 0, .int .i64 0, .int .i64 0, .int .i64 0, .int .i64 0]

theorem array12 (cur : Array Value) (h : cur.size = 12) : ∃ a0 a1 a2 a3 a4 a5 a6 a7 a8 a9 a10 a11, cur = #[a0, a1, a2, a3, a4, a5, a6, a7, a8, a9, a10, a11] := by
  obtain ⟨l⟩ := cur
  match l, h with
  | [a0, a1, a2, a3, a4, a5, a6, a7, a8, a9, a10, a11], _ => exact ⟨a0, a1, a2, a3, a4, a5, a6, a7, a8, a9, a10, a11, rfl⟩

/-- All twelve cells of a variable stored one behind the other. -/
def put12 (w : World) (b : Nat) (n : NodeM) : World :=
  ((((((((((((w.setCell ⟨b, 0, none⟩ (.int .i64 n.kind)).setCell ⟨b, 1, none⟩ (.int .i64 n.space)).setCell ⟨b, 2, none⟩ (.string n.name)).setCell ⟨b, 3, none⟩ n.av).setCell ⟨b, 4, none⟩ (.string n.data)).setCell ⟨b, 5, none⟩ (.string n.system)).setCell
    ⟨b, 6, none⟩ (.int .i64 n.parent)).setCell ⟨b, 7, none⟩ (.int .i64 n.first)).setCell ⟨b, 8, none⟩ (.int .i64 n.last)).setCell ⟨b, 9, none⟩ (.int .i64 n.prev)).setCell ⟨b, 10, none⟩ (.int .i64 n.next)).setCell ⟨b, 11, none⟩ (.int .i64 n.inner))

theorem put12_mod (w : World) (b : Nat) (n : NodeM) : Mod (fun k => k = b) w (put12 w b n) := by
  have st : ∀ (w1 : World) (j : Nat) (v : Value), Mod (fun k => k = b) w w1 → Mod (fun k => k = b) w (w1.setCell ⟨b, j, none⟩ v) := fun w1 j v h => h.trans (Mod.setCell w1 ⟨b, j, none⟩ v rfl)
  exact st _ _ _ (st _ _ _ (st _ _ _ (st _ _ _ (st _ _ _ (st _ _ _ (st _ _ _ (st _ _ _ (st _ _ _ (st _ _ _ (st _ _ _ (st _ _ _ (Mod.refl _ _))))))))))))

theorem arr12 (a0 a1 a2 a3 a4 a5 a6 a7 a8 a9 a10 a11 v0 v1 v2 v3 v4 v5 v6 v7 v8 v9 v10 v11 : Value) :
    ((((((((((((#[a0, a1, a2, a3, a4, a5, a6, a7, a8, a9, a10, a11].setIfInBounds 0 v0).setIfInBounds 1 v1).setIfInBounds 2 v2).setIfInBounds 3 v3).setIfInBounds 4 v4).setIfInBounds 5 v5).setIfInBounds 6 v6).setIfInBounds 7 v7).setIfInBounds 8 v8).setIfInBounds 9 v9).setIfInBounds 10 v10).setIfInBounds 11 v11)
      = #[v0, v1, v2, v3, v4, v5, v6, v7, v8, v9, v10, v11] := by simp

theorem put12_block (w : World) (b : Nat) (n : NodeM) (cur : Array Value) (t : TypeId) (h : w.heap[b]? = some (.cells cur t (0, 0))) (hs : cur.size = 12) : (put12 w b n).heap[b]? = some (.cells n.cells.toArray t (0, 0)) := by
  obtain ⟨a0, a1, a2, a3, a4, a5, a6, a7, a8, a9, a10, a11, rfl⟩ := array12 cur hs
  have h0 := heap_setCell_same w b 0 _ t (.int .i64 n.kind) h
  have h1 := heap_setCell_same _ b 1 _ t (.int .i64 n.space) h0
  have h2 := heap_setCell_same _ b 2 _ t (.string n.name) h1
  have h3 := heap_setCell_same _ b 3 _ t n.av h2
  have h4 := heap_setCell_same _ b 4 _ t (.string n.data) h3
  have h5 := heap_setCell_same _ b 5 _ t (.string n.system) h4
  have h6 := heap_setCell_same _ b 6 _ t (.int .i64 n.parent) h5
  have h7 := heap_setCell_same _ b 7 _ t (.int .i64 n.first) h6
  have h8 := heap_setCell_same _ b 8 _ t (.int .i64 n.last) h7
  have h9 := heap_setCell_same _ b 9 _ t (.int .i64 n.prev) h8
  have h10 := heap_setCell_same _ b 10 _ t (.int .i64 n.next) h9
  have h11 := heap_setCell_same _ b 11 _ t (.int .i64 n.inner) h10
  rw [arr12] at h11
  exact h11

/-- What Node's two results are read as. -/
theorem node_ret (W : World) (b : Nat) (n : NodeM) (h : W.heap[b]? = some (.cells n.cells.toArray 89 (0, 0))) (tmps : Array Value) (x : Value) (h4 : tmps.getD 4 undef = .pointer (some ⟨b, 0, none⟩)) (h5 : tmps.getD 5 undef = x) :
    (results Try.f65 tmps).run Try.prog W = .ok (.tuple #[.agg n.cells.toArray, x]) W := by
  have c : ∀ j, j < 12 → W.cell? ⟨b, j, none⟩ = n.cells[j]? := fun j hj => by simp [World.cell?, h]
  have c0 := c 0 (by omega)
  have c1 := c 1 (by omega)
  have c2 := c 2 (by omega)
  have c3 := c 3 (by omega)
  have c4 := c 4 (by omega)
  have c5 := c 5 (by omega)
  have c6 := c 6 (by omega)
  have c7 := c 7 (by omega)
  have c8 := c 8 (by omega)
  have c9 := c 9 (by omega)
  have c10 := c 10 (by omega)
  have c11 := c 11 (by omega)
  clear c
  simp only [NodeM.cells, List.getElem?_cons_zero, List.getElem?_cons_succ] at c0 c1 c2 c3 c4 c5 c6 c7 c8 c9 c10 c11
  rw [results_cell_tmp (p := 4) (u := 5) (ty := 89) Try.results65 tmps Try.prog W, h4, h5]
  simp [go_sem, c0, c1, c2, c3, c4, c5, c6, c7, c8, c9, c10, c11, NodeM.cells]

set_option maxHeartbeats 2000000 in
theorem node_in {w : World} {base bA : Nat} {ns : List NodeM} {F : Nat → Prop} (h : ArS w base bA ns F) (i : Nat) (n : NodeM) (hi : ns[i]? = some n) :
    Calls Try.prog 65 #[.pointer (some ⟨bA, 0, none⟩), .int .i64 i] w fun e w' => ∃ ao cp, e = .returned (.tuple #[nodeV n (.slice ao n.attrs.length cp), .int .i64 0]) ∧
      w'.ownsRow base 86 4 (.slice ao n.attrs.length cp) n.attrs.length (attrRow n.attrs) ∧ Below w.heap.size w w' ∧ (∀ k, (Value.slice ao n.attrs.length cp).ownBlock = some k → w.heap.size ≤ k) := by
  have hbase := h.base_le
  obtain ⟨bS, g, cp, h, hF⟩ := h
  clear hF
  have hlt : i < ns.length := (List.getElem?_eq_some_iff.1 hi).1
  have hm := h.most
  obtain ⟨a, c, hav, hin⟩ := ownsRow_attrs (h.attrs i n hi)
  have hfew := h.few i n hi
  have ha1 := h.alloc (.cells #[.int .i64 0, .int .i64 0, .string ⟨#[]⟩, .slice none 0 0, .string ⟨#[]⟩, .string ⟨#[]⟩, .int .i64 0, .int .i64 0, .int .i64 0, .int .i64 0, .int .i64 0, .int .i64 0] 89)
  have HM := hide (made_yes ha1)
  have HH := hide (has_any ha1 i)
  have hyes : hasM ns i = true := by simp [hasM, hlt]
  rw [hyes] at HH
  obtain ⟨c0, c1, c2, c3, c4, c5, c6, c7, c8, c9, c10, c11⟩ := h.cells12 hi
  have hA := h.cA
  have hS := h.cS
  have ltg := h.lt.2.2
  have ltS := h.lt.2.1
  have ltA := h.lt.1
  rw [hav] at c3
  have HI := hide hin
  clear h ha1 hyes hi hav hin
  go_enter Try.func65, Try.ntmps65
  go_wp2_with (first
    | (go_at_call 40; refine (unhide HM).mono ?_; rintro e w' ⟨rfl, rfl⟩)
    | (go_at_call 72; refine (unhide HH).mono ?_; rintro e w' ⟨rfl, rfl⟩)
    | (go_at_call 43; refine (ownAttrs_any _ base (by simp; omega) a c n.attrs (((unhide HI).below ((Below.refl _ _).alloc (Nat.le_refl _) _)).below ((Below.refl _ _).alloc (Nat.le_refl _) _)) hfew).mono ?_; rintro e w4 ⟨ao, cp4, rfl, hov, hb4, hfr⟩; have HOV := hide hov; have HB4 := hide hb4; have HFR := hide hfr; obtain ⟨bc, bf⟩ := bcell hb4; simp at bc bf; clear hov hb4 hfr))
  have fin : ∀ w5, Mod (fun k => k = w.heap.size ∨ k = w.heap.size + 1) w4 w5 → w5.ownsRow base 86 4 (.slice ao n.attrs.length cp4) n.attrs.length (attrRow n.attrs) ∧ Below w.heap.size w w5 ∧ (∀ k, (Value.slice ao n.attrs.length cp4).ownBlock = some k → w.heap.size ≤ k) := by
    intro w5 hm5
    have hfr' : ∀ k, (Value.slice ao n.attrs.length cp4).ownBlock = some k → w.heap.size + 2 ≤ k := fun k hk => by have := (unhide HFR) k hk; simpa using this
    have hb := unhide HB4
    have b3 : Below w.heap.size w w4 := (((Below.refl _ w).alloc (Nat.le_refl _) _).alloc (by simp) _).trans (hb.mono (by simp; omega))
    refine ⟨ownsRow_kept (unhide HOV) (fun k hk => ?_), b3.trans (hm5.below b3.size (fun k hk => by omega)), fun k hk => by have := hfr' k hk; omega⟩
    obtain ⟨cur, hc⟩ := ownsRow_block (unhide HOV) hk
    exact hm5.block k (lt_of_block hc) (fun e => by have := hfr' k hk; omega)
  have hblk : (w4.setCell ⟨w.heap.size + 1, 3, none⟩ (.slice ao n.attrs.length cp4)).heap[w.heap.size]? = some (.cells #[.int .i64 0, .int .i64 0, .string ⟨#[]⟩, .slice none 0 0, .string ⟨#[]⟩, .string ⟨#[]⟩, .int .i64 0, .int .i64 0, .int .i64 0, .int .i64 0, .int .i64 0, .int .i64 0] 89 (0, 0)) := by
    rw [Below.heap_setCell _ _ _ _ (by simp), (unhide HB4).block _ (by simp; omega), Below.heap_alloc _ _ _ (by simp), last_block _ _ _ rfl]
  exact bodyPost_ret (v := .tuple #[nodeV n (.slice ao n.attrs.length cp4), .int .i64 0]) (node_ret _ w.heap.size { n with av := .slice ao n.attrs.length cp4 } (put12_block _ _ _ _ _ hblk rfl) _ _ rfl rfl) rfl
    ⟨ao, cp4, rfl, fin _ (((Mod.setCell w4 ⟨w.heap.size + 1, 3, none⟩ _ (.inr rfl))).trans ((put12_mod _ w.heap.size { n with av := .slice ao n.attrs.length cp4 }).mono (fun k _ hk => .inl hk)))⟩
end Go.Proofs.Ytabdgmcajndgbaa

namespace Go.Proofs.Ytabdgmcajndgbaa
open Go.RowKit

theorem threeS (w : World) (t : TypeId) (x y z : ByteArray) : ∀ j s, [x, y, z][j]? = some s → (w.alloc (.cells #[.string x, .string y, .string z] t)).cell? ⟨w.heap.size, j, none⟩ = some (.string s) := by
  intro j s hj
  match j, hj with
  | 0, hj => simp at hj; subst hj; simp
  | 1, hj => simp at hj; subst hj; simp
  | 2, hj => simp at hj; subst hj; simp

set_option maxHeartbeats 1000000 in
theorem node_no {w : World} {base bA : Nat} {ns : List NodeM} {F : Nat → Prop} (h : ArS w base bA ns F) (k : Int) (hk : hasM ns k = false) :
    Calls Try.prog 65 #[.pointer (some ⟨bA, 0, none⟩), .int .i64 k] w fun e w' => e = .returned (.tuple #[nodeZ, .int .i64 6]) ∧ Below w.heap.size w w' := by
  obtain ⟨bS, g, cap, h, hF⟩ := h
  have HM := hide (fun w' hb => made_yes (w := w') (h.below hb))
  have HH := hide (fun w' hb => has_any (h.below hb) k (w := w'))
  rw [hk] at HH
  have hb0 := Below.refl w.heap.size w
  clear h hF hk
  go_enter Try.func65, Try.ntmps65
  go_wp2_with (first
    | (go_at_call 40; refine ((unhide HM) _ (by first | assumption | exact (Below.refl _ _).alloc (Nat.le_refl _) _)).mono ?_; rintro e w' ⟨rfl, rfl⟩)
    | (go_at_call 72; refine ((unhide HH) _ (by first | assumption | exact (Below.refl _ _).alloc (Nat.le_refl _) _)).mono ?_; rintro e w' ⟨rfl, rfl⟩))
  exact bodyPost_ret (v := .tuple #[nodeZ, .int .i64 6]) (by simp [results, Try.results65, go_sem, nodeZ]) rfl ⟨rfl, by first | assumption | exact (Below.refl _ _).alloc (Nat.le_refl _) _⟩

end Go.Proofs.Ytabdgmcajndgbaa

namespace Go.Proofs.Ytabdgmcajndgbaa
open Go.RowKit

structure OneM where
  kind : Int
  space : Int
  name : ByteArray
  data : ByteArray
  system : ByteArray
  inner : Int
  host : Int
  up : Int
  attrs : List AttrM
  kids : List Nat

def oneM (k : Int) : OneM := { kind := k, space := 0, name := ⟨#[]⟩, data := ⟨#[]⟩, system := ⟨#[]⟩, inner := -1, host := -1, up := -1, attrs := [], kids := [] }
def hasO (os : List OneM) (k : Int) : Bool := decide (0 ≤ k ∧ k < os.length)
theorem hasO_yes {os : List OneM} {k : Int} (h : hasO os k = true) : ∃ (i : Nat) (o : OneM), k = (i : Int) ∧ os[i]? = some o := by
  have h1 := of_decide_eq_true h
  exact ⟨k.toNat, os[k.toNat]'(by omega), by omega, List.getElem?_eq_getElem (by omega)⟩
theorem hasO_of {os : List OneM} {i : Nat} {o : OneM} (h : os[i]? = some o) : hasO os (i : Int) = true := by
  have := (List.getElem?_eq_some_iff.1 h).1
  exact decide_eq_true (by omega)
def dataQ (kind : Int) (s : ByteArray) : OneM := { oneM kind with data := s }
def elemQ (space : Int) (name : ByteArray) (l : List AttrM) : OneM := { oneM 1 with space := space, name := name, attrs := l }
/-- A node more, if there is room: the nodes, its number, the error. -/
def addO (os : List OneM) (q : OneM) : List OneM × Int × Int := if os.length + 1 ≤ 32768 then (os ++ [q], (os.length : Int), 0) else (os, 0, 9)
def dataO (os : List OneM) (kind : Int) (s : ByteArray) : List OneM × Int × Int := if longS s then (os, 0, 2) else addO os (dataQ kind s)
def fragO (os : List OneM) : List OneM × Int × Int := addO os (oneM 5)
def elemO (os : List OneM) (space : Int) (name : ByteArray) (l : List AttrM) : List OneM × Int × Int :=
  if space < 0 ∨ 2 < space then (os, 0, 1)
  else if longE name l then (os, 0, 2)
  else if space = 0 ∧ isT name = true then
    (if os.length + 2 ≤ 32768 then (os ++ [{ elemQ space name l with inner := (os.length : Int) + 1 }, { oneM 5 with host := (os.length : Int) }], (os.length : Int), 0) else (os, 0, 9))
  else addO os (elemQ space name l)

theorem Try.info3 : (Try.prog.info? 3).map (fun i => (i.zero, i.size, i.bytes)) = some (some (.int .i64 0), 1, 8) := by kernel_rfl
def intsV (l : List Nat) : List Value := l.map fun (x : Nat) => Value.int .i64 (x : Int)
end Go.Proofs.Ytabdgmcajndgbaa

namespace Go.Proofs.Ytabdgmcajndgbaa
open Go.RowKit

structure OneR where
  o : OneM
  av : Value
  kv : Value

def OneR.cells (r : OneR) : List Value :=
  [.int .i64 r.o.kind, .int .i64 r.o.space, .string r.o.name, r.av, .string r.o.data, .string r.o.system, .int .i64 r.o.inner, .int .i64 r.o.host, .int .i64 r.o.up, r.kv]
def oneRow (l : List OneR) : List Value := l.flatMap OneR.cells
theorem one_len (r : OneR) : r.cells.length = 10 := rfl

/-- Numbers that lie in a row. -/
structure IntsIn (w : World) (a : Option Addr) (l : List Nat) : Prop where
  cells : ∀ (i : Nat) x, l[i]? = some x → ∃ b off, a = some ⟨b, off, none⟩ ∧ w.cell? ⟨b, off + i, none⟩ = some (.int .i64 ((x : Nat) : Int))

/-- The block that a slice lies in. -/
def blk : Value → Option Nat
  | .slice (some a) _ _ => some a.block
  | _ => none

structure Rf (w : World) (base bR g cap : Nat) (rs : List OneR) : Prop where
  arena : w.heap[bR]? = some (.cells #[.slice (some ⟨g, 0, none⟩) rs.length cap] 101 (0, 0))
  row : w.ownsRow base 98 10 (.slice (some ⟨g, 0, none⟩) rs.length cap) rs.length (oneRow rs)
  lo : base ≤ bR
  pos : 0 < rs.length
  most : rs.length ≤ 32768
  attrs : ∀ (i : Nat) r, rs[i]? = some r → ∃ a cp, r.av = .slice a r.o.attrs.length cp ∧ AttrsIn w a r.o.attrs ∧ r.o.attrs.length ≤ 1024 ∧ r.o.attrs.length ≤ cp
  kids : ∀ (i : Nat) r, rs[i]? = some r → ∃ a cp, r.kv = .slice a r.o.kids.length cp ∧ IntsIn w a r.o.kids ∧ r.o.kids.length ≤ 32768
  held : ∀ (i : Nat) r, rs[i]? = some r → ∀ k, (blk r.av = some k ∨ blk r.kv = some k) → base ≤ k ∧ k < w.heap.size ∧ k ≠ bR ∧ k ≠ g

def osOf (rs : List OneR) : List OneM := rs.map (·.o)
theorem osOf_get {rs : List OneR} {i : Nat} {r : OneR} (h : rs[i]? = some r) : (osOf rs)[i]? = some r.o := by simp [osOf, h]
theorem osOf_len (rs : List OneR) : (osOf rs).length = rs.length := by simp [osOf]

/-- The blocks of such an arena. -/
def footR (bR g : Nat) (rs : List OneR) (k : Nat) : Prop := k = bR ∨ k = g ∨ ∃ r ∈ rs, blk r.av = some k ∨ blk r.kv = some k

theorem IntsIn.mod {w w' : World} {a : Option Addr} {l : List Nat} (h : IntsIn w a l) (hb : ∀ b off, a = some ⟨b, off, none⟩ → w'.heap[b]? = w.heap[b]?) : IntsIn w' a l := ⟨fun i x hi => by
  obtain ⟨b, off, e, hc⟩ := h.cells i x hi
  exact ⟨b, off, e, (World.cell?_of_block (w := w) (hb b off e)).trans hc⟩⟩
theorem AttrsIn.mod {w w' : World} {a : Option Addr} {l : List AttrM} (h : AttrsIn w a l) (hb : ∀ b off, a = some ⟨b, off, none⟩ → w'.heap[b]? = w.heap[b]?) : AttrsIn w' a l := ⟨fun i x hi => by
  obtain ⟨b, off, e, c0, c1, c2, c3⟩ := h.cells i x hi
  have hc := fun (j : Nat) => World.cell?_of_block (w := w) (w' := w') (a := ⟨b, j, none⟩) (hb b off e)
  exact ⟨b, off, e, (hc _).trans c0, (hc _).trans c1, (hc _).trans c2, (hc _).trans c3⟩⟩

section
variable {w w' : World} {base bR g cap : Nat} {rs : List OneR}

theorem Rf.cR (h : Rf w base bR g cap rs) : w.cell? ⟨bR, 0, none⟩ = some (.slice (some ⟨g, 0, none⟩) rs.length cap) := cell_of_one h.arena
theorem Rf.fR (h : Rf w base bR g cap rs) : w.frozen? ⟨bR, 0, none⟩ = false := free_of_one h.arena
theorem Rf.fg (h : Rf w base bR g cap rs) (j : Nat) : w.frozen? ⟨g, j, none⟩ = false := h.row.frozenAt j
theorem Rf.cell (h : Rf w base bR g cap rs) {i : Nat} {r : OneR} (hi : rs[i]? = some r) (j : Nat) (hj : j < 10) : w.cell? ⟨g, i * 10 + j, none⟩ = r.cells[j]? := by
  have hlt : i < rs.length := (List.getElem?_eq_some_iff.1 hi).1
  rw [h.row.cellAt (i * 10 + j) (by omega), oneRow, flat_get OneR.cells 10 one_len rs i j hj, hi]; rfl
theorem Rf.cells10 (h : Rf w base bR g cap rs) {i : Nat} {r : OneR} (hi : rs[i]? = some r) :
    w.cell? ⟨g, i * 10, none⟩ = some (.int .i64 r.o.kind) ∧ w.cell? ⟨g, i * 10 + 1, none⟩ = some (.int .i64 r.o.space) ∧ w.cell? ⟨g, i * 10 + 2, none⟩ = some (.string r.o.name) ∧
    w.cell? ⟨g, i * 10 + 3, none⟩ = some r.av ∧ w.cell? ⟨g, i * 10 + 4, none⟩ = some (.string r.o.data) ∧ w.cell? ⟨g, i * 10 + 5, none⟩ = some (.string r.o.system) ∧
    w.cell? ⟨g, i * 10 + 6, none⟩ = some (.int .i64 r.o.inner) ∧ w.cell? ⟨g, i * 10 + 7, none⟩ = some (.int .i64 r.o.host) ∧ w.cell? ⟨g, i * 10 + 8, none⟩ = some (.int .i64 r.o.up) ∧ w.cell? ⟨g, i * 10 + 9, none⟩ = some r.kv :=
  ⟨h.cell hi 0 (by omega), h.cell hi 1 (by omega), h.cell hi 2 (by omega), h.cell hi 3 (by omega), h.cell hi 4 (by omega), h.cell hi 5 (by omega), h.cell hi 6 (by omega), h.cell hi 7 (by omega), h.cell hi 8 (by omega), h.cell hi 9 (by omega)⟩
theorem Rf.blockg (h : Rf w base bR g cap rs) : ∃ cur, w.heap[g]? = some (.cells cur 98 (0, 0)) := by
  rcases h.row.2 with ⟨h', _⟩ | ⟨g', cap', cur, h', _, hg, _⟩
  · simp at h'
  · simp only [Value.slice.injEq, Option.some.injEq, Addr.mk.injEq, and_true, true_and] at h'
    obtain ⟨rfl, rfl⟩ := h'
    exact ⟨cur, hg⟩
theorem Rf.neRg (h : Rf w base bR g cap rs) : bR ≠ g := by
  obtain ⟨cur, hg⟩ := h.blockg
  intro e; subst e; have := h.arena; rw [hg] at this; simp at this
theorem Rf.lt (h : Rf w base bR g cap rs) : bR < w.heap.size ∧ g < w.heap.size := by
  obtain ⟨cur, hg⟩ := h.blockg
  exact ⟨lt_of_block h.arena, lt_of_block hg⟩
theorem Rf.base_g (h : Rf w base bR g cap rs) : base ≤ g := by
  rcases h.row.2 with ⟨h', _⟩ | ⟨g', cap', cur, h', hb, hg, _⟩
  · simp at h'
  · simp only [Value.slice.injEq, Option.some.injEq, Addr.mk.injEq, and_true, true_and] at h'
    obtain ⟨rfl, rfl⟩ := h'
    first | exact hb | exact hb.1 | omega
theorem Rf.foot_lt (h : Rf w base bR g cap rs) {k : Nat} (hk : footR bR g rs k) : base ≤ k ∧ k < w.heap.size := by
  rcases hk with rfl | rfl | ⟨r, hr, hk⟩
  · exact ⟨h.lo, h.lt.1⟩
  · exact ⟨h.base_g, h.lt.2⟩
  · obtain ⟨i, hi⟩ := List.mem_iff_getElem?.1 hr
    have := h.held i r hi k hk
    exact ⟨this.1, this.2.1⟩
theorem Rf.same (h : Rf w base bR g cap rs) (hk : ∀ k, footR bR g rs k → w'.heap[k]? = w.heap[k]?) (hsz : w.heap.size ≤ w'.heap.size) : Rf w' base bR g cap rs := by
  refine ⟨(hk bR (.inl rfl)).trans h.arena, ownsRow_kept h.row (fun k e => ?_), h.lo, h.pos, h.most, fun i r hi => ?_, fun i r hi => ?_, fun i r hi k e => ?_⟩
  · simp [Value.ownBlock] at e; subst e; exact hk _ (.inr (.inl rfl))
  · obtain ⟨a, cp, e, ha, hl⟩ := h.attrs i r hi
    exact ⟨a, cp, e, ha.mod (fun b off eb => hk b (.inr (.inr ⟨r, List.mem_of_getElem? hi, .inl (by rw [e, eb]; rfl)⟩))), hl⟩
  · obtain ⟨a, cp, e, ha, hl⟩ := h.kids i r hi
    exact ⟨a, cp, e, ha.mod (fun b off eb => hk b (.inr (.inr ⟨r, List.mem_of_getElem? hi, .inr (by rw [e, eb]; rfl)⟩))), hl⟩
  · obtain ⟨h1, h2, h3⟩ := h.held i r hi k e
    exact ⟨h1, by omega, h3⟩
theorem Rf.below (h : Rf w base bR g cap rs) (hb : Below w.heap.size w w') : Rf w' base bR g cap rs :=
  h.same (fun k hk => hb.block k (h.foot_lt hk).2) hb.size
theorem Rf.mod (h : Rf w base bR g cap rs) {F : Nat → Prop} (hm : Mod F w w') (hF : ∀ k, footR bR g rs k → ¬ F k) : Rf w' base bR g cap rs :=
  h.same (fun k hk => hm.block k (h.foot_lt hk).2 (hF k hk)) hm.size
theorem Rf.alloc (h : Rf w base bR g cap rs) (o : Obj) : Rf (w.alloc o) base bR g cap rs := h.below ((Below.refl _ w).alloc (Nat.le_refl _) o)

theorem refIs_any (h : Rf w base bR g cap rs) (k : Int) : Calls Try.prog 68 #[.pointer (some ⟨bR, 0, none⟩), .int .i64 k] w fun e w' => e = .returned (.bool (hasO (osOf rs) k)) ∧ w = w' := by
  have hA := h.cR
  have hn := h.most
  have hl := osOf_len rs
  unfold hasO
  rw [hl]
  clear h hl
  go_enter Try.func68, Try.ntmps68
  go_wp2
  all_goals go_ret
  · refine ⟨?_, rfl⟩
    have h0 : 0 ≤ k := by assumption
    simp [h0]
  · refine ⟨?_, rfl⟩
    have h0 : k < 0 := by assumption
    simp; omega

end
end Go.Proofs.Ytabdgmcajndgbaa

namespace Go.Proofs.Ytabdgmcajndgbaa
open Go.RowKit

section
variable {w : World} {base bR g cap : Nat} {rs : List OneR}

theorem refLong_any (w : World) (b cp : Nat) (ss : List ByteArray) (hc : ∀ j s, ss[j]? = some s → w.cell? ⟨b, j, none⟩ = some (.string s)) (hl : ss.length ≤ 1000) :
    Calls Try.prog 45 #[.slice (some ⟨b, 0, none⟩) ss.length cp] w fun e w' => e = .returned (.bool (ss.any longS)) ∧ w = w' := by
  have HC := hide hc
  clear hc
  go_enter Try.func45, Try.ntmps45
  go_wp2
  go_loopg [3] ss.length (fun k s2 wx => ∃ i : Nat, s2 = .int .i64 i ∧ i + k = ss.length ∧ (∀ j s, j < i → ss[j]? = some s → longS s = false) ∧ wx = w)
  case atStart => exact ⟨0, rfl, by omega, fun j s hj => by omega, rfl⟩
  case round =>
    obtain ⟨i, rfl, hik, hall, rfl⟩ := hrel
    have HA := hide hall
    clear hall
    by_cases hi : i < ss.length
    · have hs : ss[i]? = some ss[i] := List.getElem?_eq_getElem hi
      generalize ss[i] = s at hs
      have hcs := (unhide HC) i s hs
      have hiz : (i : Int) < (ss.length : Int) := by omega
      by_cases hlong : 1048576 < s.size
      · have hlz : (1048576 : Int) < (s.size : Int) := by omega
        go_wp2
        go_ret
        refine ⟨?_, rfl⟩
        have : ss.any longS = true := List.any_eq_true.2 ⟨s, List.mem_of_getElem? hs, by simp [longS, hlong]⟩
        rw [this]; rfl
      · have hlz : ¬ (1048576 : Int) < (s.size : Int) := by omega
        go_wp2
        go_roundg (gk - 1)
        case measure => omega
        case rel => exact ⟨i + 1, by go_num, by omega, none_long ss i s hs (unhide HA) (by simp [longS]; omega), rfl⟩
    · have hiz : ¬ (i : Int) < (ss.length : Int) := by omega
      go_wp2
      go_ret
      refine ⟨?_, rfl⟩
      have : ss.any longS = false := any_long_no (fun j s hj hs => (unhide HA) j s (by omega) hs)
      rw [this]; rfl

end
end Go.Proofs.Ytabdgmcajndgbaa
