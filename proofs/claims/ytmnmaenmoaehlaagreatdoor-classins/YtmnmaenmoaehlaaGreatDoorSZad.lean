/-
   
-/
import Derived.Test.YtmnmaenmoaehlaaGreatDoorSZac
import Derived.Deep.LoopGhost
namespace Go.Proofs.YtmnmaenmoaehlaaGreatDoor
open Go.RowKit

set_option maxHeartbeats 2000000 in
theorem element_full1 {w : World} {base bA : Nat} {ns : List NodeM} {F : Nat → Prop} (h : ArS w base bA ns F) (space : Int) (name : ByteArray) (a : Option Addr) (cap : Nat) (l : List AttrM) (hl : AttrsIn w a l)
    (hs : space = 1 ∨ space = 2 ∨ (space = 0 ∧ isT name = false)) (hlong : longE name l = false) (hf : ¬ ns.length + 1 ≤ 32768) :
    Calls Tryz.prog 12 #[.pointer (some ⟨bA, 0, none⟩), .int .i64 space, .string name, .slice a l.length cap] w fun e w' => e = .returned (.tuple #[.int .i64 0, .int .i64 9]) ∧ Below w.heap.size w w' := by
  have hbase := h.base_le
  obtain ⟨bS, g, cp, h, hF⟩ := h
  have hlen : l.length ≤ 1024 := by simp [longE] at hlong; omega
  have hnm : longS name = false := by simp [longE] at hlong; exact hlong.1.1
  have hla : l.any AttrM.long = false := by simp [longE] at hlong; simpa using hlong.2
  have HM := hide (made_yes h)
  have HL := hide (anyLong_any (w.alloc (.cells #[.string name] 9)) w.heap.size 1 [name] (one_cell_s w 9 name) (by simp))
  have hl1 := hl.below ((Below.refl _ w).alloc (Nat.le_refl _) (.cells #[.string name] 9))
  have HA := hide (anyLongAttr_any (w.alloc (.cells #[.string name] 9)) a cap l hl1 (by unfold maxLen; omega))
  have HB1 := hide ((Below.refl _ w).alloc (Nat.le_refl _) (.cells #[.string name] 9))
  have e1 : [name].any longS = longS name := by simp
  rw [e1, hnm] at HL
  rw [hla] at HA
  have HI := hide hl1
  have HH := hide h
  clear h hF hl hl1 e1 hnm hla hlong
  unfold isT at hs
  have hc' : ¬ (1024 : Int) < (l.length : Int) := by omega
  rcases hs with rfl | rfl | ⟨rfl, hne⟩
  all_goals
    go_enter Tryz.func12, Tryz.ntmps12
    go_wp2_with (first
      | (go_at_call 32; refine (unhide HM).mono ?_; rintro e w' ⟨rfl, rfl⟩)
      | (go_at_call 33; refine (unhide HL).mono ?_; rintro e w' ⟨rfl, rfl⟩)
      | (go_at_call 34; refine (unhide HA).mono ?_; rintro e w2 ⟨rfl, hb2⟩; have HB2 := hide hb2; clear hb2)
      | (go_at_call 31; refine (blank_any _).mono ?_; rintro e w' ⟨rfl, rfl⟩)
      | (go_at_call 35; refine (ownAttrs_any _ base (by have := (unhide HB2).size; simp at this ⊢; omega) a cap l ((((unhide HI).below (unhide HB2)).below ((Below.refl _ _).alloc (Nat.le_refl _) _)).below ((Below.refl _ _).alloc (Nat.le_refl _) _)) hlen).mono ?_; rintro e w4 ⟨ao, cp4, rfl, hov, hb4, hfr⟩; have HOV := hide hov; have HB4 := hide hb4; have HFR := hide hfr; obtain ⟨bc, bf⟩ := bcell hb4; simp at bc bf; clear hov hb4 hfr))
    obtain ⟨R1, R2, R3, R4⟩ := elem_ready (unhide HH) (unhide HB1) (unhide HB2) _ _ (unhide HB4) (mod3 w4 _ _ _ _ _) l hlen _ (unhide HOV) (unhide HFR) (elemN 0 name l (.slice ao l.length cp4)) rfl rfl [] (by simp)
    refine (add_full R2 _ _ 1 (by omega) hf).mono ?_
    rintro e w' ⟨rfl, rfl⟩
    have HR1 := hide R1
    clear R1 R2 R3 R4 bc bf
    go_wp2
    go_ret2
    exact ⟨rfl, unhide HR1⟩

set_option maxHeartbeats 4000000 in
theorem element_full2 {w : World} {base bA : Nat} {ns : List NodeM} {F : Nat → Prop} (h : ArS w base bA ns F) (name : ByteArray) (a : Option Addr) (cap : Nat) (l : List AttrM) (hl : AttrsIn w a l)
    (hs : isT name = true) (hlong : longE name l = false) (hf : ¬ ns.length + 2 ≤ 32768) :
    Calls Tryz.prog 12 #[.pointer (some ⟨bA, 0, none⟩), .int .i64 0, .string name, .slice a l.length cap] w fun e w' => e = .returned (.tuple #[.int .i64 0, .int .i64 9]) ∧ Below w.heap.size w w' := by
  have hbase := h.base_le
  obtain ⟨bS, g, cp, h, hF⟩ := h
  have hlen : l.length ≤ 1024 := by simp [longE] at hlong; omega
  have hnm : longS name = false := by simp [longE] at hlong; exact hlong.1.1
  have hla : l.any AttrM.long = false := by simp [longE] at hlong; simpa using hlong.2
  have HM := hide (made_yes h)
  have HL := hide (anyLong_any (w.alloc (.cells #[.string name] 9)) w.heap.size 1 [name] (one_cell_s w 9 name) (by simp))
  have hl1 := hl.below ((Below.refl _ w).alloc (Nat.le_refl _) (.cells #[.string name] 9))
  have HA := hide (anyLongAttr_any (w.alloc (.cells #[.string name] 9)) a cap l hl1 (by unfold maxLen; omega))
  have HB1 := hide ((Below.refl _ w).alloc (Nat.le_refl _) (.cells #[.string name] 9))
  have e1 : [name].any longS = longS name := by simp
  rw [e1, hnm] at HL
  rw [hla] at HA
  have HI := hide hl1
  have HH := hide h
  have HF := hide hF
  have ltA := h.lt.1
  have ltS := h.lt.2.1
  clear h hF hl hl1 e1 hnm hla hlong
  unfold isT at hs
  have hc' : ¬ (1024 : Int) < (l.length : Int) := by omega
  go_enter Tryz.func12, Tryz.ntmps12
  go_wp2_with (first
      | (go_at_call 32; refine (unhide HM).mono ?_; rintro e w' ⟨rfl, rfl⟩)
      | (go_at_call 33; refine (unhide HL).mono ?_; rintro e w' ⟨rfl, rfl⟩)
      | (go_at_call 34; refine (unhide HA).mono ?_; rintro e w2 ⟨rfl, hb2⟩; have HB2 := hide hb2; have sz2 : w.heap.size < w2.heap.size := (by have := hb2.size; simp at this; omega); have neA : ¬ bA = w2.heap.size + 1 := (by omega); have neS : ¬ bS = w2.heap.size + 1 := (by omega); clear hb2)
      | (go_at_call 31; refine (blank_any _).mono ?_; rintro e w' ⟨rfl, rfl⟩)
      | (go_at_call 35; refine (ownAttrs_any _ base (by have := (unhide HB2).size; simp at this ⊢; omega) a cap l ((((unhide HI).below (unhide HB2)).below ((Below.refl _ _).alloc (Nat.le_refl _) _)).below ((Below.refl _ _).alloc (Nat.le_refl _) _)) hlen).mono ?_; rintro e w4 ⟨ao, cp4, rfl, hov, hb4, hfr⟩; have HOV := hide hov; have HB4 := hide hb4; have HFR := hide hfr; have hz4 : w2.heap.size + 1 < w4.heap.size := (by have := hb4.size; simp at this; omega); have har4 := ((((unhide HH).below (unhide HB1)).below (unhide HB2)).alloc _ |>.alloc _).below hb4; have hA4 := har4.cA; have hS4 := har4.cS; obtain ⟨bc, bf⟩ := bcell hb4; simp at bc bf; clear hov hb4 hfr har4))
  go_region_with (first
      | (go_at_call 31; refine (blank_any _).mono ?_; rintro e w' ⟨rfl, rfl⟩)
      | (go_at_call 36; obtain ⟨R1, R2, R3, R4⟩ := elem_ready (unhide HH) (unhide HB1) (unhide HB2) _ _ (unhide HB4) (mod4 w4 _ _ _ _ _ _ _) l hlen _ (unhide HOV) (unhide HFR) { elemN 0 name l (.slice ao l.length cp4) with inner := ns.length + 1 } rfl rfl [blankM 5] (by simp [blankM]); refine (add_full R2 _ _ 2 (by omega) hf).mono ?_; rintro e w' ⟨rfl, rfl⟩; have HR1 := hide R1; have HR4 := hide R4; clear R1 R2 R3 R4 bc bf))
  all_goals go_wp2
  all_goals go_ret2
  all_goals exact ⟨rfl, unhide HR1⟩
end Go.Proofs.YtmnmaenmoaehlaaGreatDoor

namespace Go.Proofs.YtmnmaenmoaehlaaGreatDoor
open Go.RowKit

/-- The attributes of a row of one's own, as a slice that is read. -/
theorem ownsRow_attrs {w : World} {base : Nat} {v : Value} {l : List AttrM} (h : w.ownsRow base 93 4 v l.length (attrRow l)) : ∃ a c, v = .slice a l.length c ∧ AttrsIn w a l := by
  rcases h.2 with ⟨rfl, h0⟩ | ⟨g, cap, cur, rfl, _, hg, _⟩
  · have : l = [] := List.eq_nil_of_length_eq_zero h0
    subst this
    exact ⟨none, 0, rfl, ⟨fun i x hi => by simp at hi⟩⟩
  · refine ⟨some ⟨g, 0, none⟩, cap, rfl, ⟨fun i x hi => ⟨g, 0, rfl, ?_⟩⟩⟩
    have hlt : i < l.length := (List.getElem?_eq_some_iff.1 hi).1
    have hc : ∀ j, j < 4 → w.cell? ⟨g, i * 4 + j, none⟩ = x.cells[j]? := fun j hj => by
      rw [h.cellAt (i * 4 + j) (by omega), attrRow, flat_get AttrM.cells 4 attr_len l i j hj, hi]; rfl
    simp only [Nat.zero_add]
    exact ⟨hc 0 (by omega), hc 1 (by omega), hc 2 (by omega), hc 3 (by omega)⟩

def nodeV (n : NodeM) (av : Value) : Value := .agg { n with av := av }.cells.toArray
def nodeZ : Value := .agg #[.int .i64 0, .int .i64 0, .string ⟨#[]⟩, .slice none 0 0, .string ⟨#[]⟩, .string ⟨#[]⟩, .int .i64 0, .int .i64 0, .int .i64 0, .int .i64 0, .int .i64 0, .int .i64 0]

theorem array12 (cur : Array Value) (h : cur.size = 12) : ∃ a0 a1 a2 a3 a4 a5 a6 a7 a8 a9 a10 a11, cur = #[a0, a1, a2, a3, a4, a5, a6, a7, a8, a9, a10, a11] := by
  obtain ⟨l⟩ := cur
  match l, h with
  | [a0, a1, a2, a3, a4, a5, a6, a7, a8, a9, a10, a11], _ => exact ⟨a0, a1, a2, a3, a4, a5, a6, a7, a8, a9, a10, a11, rfl⟩

/-- All twelve cells of a variable stored one behind the other. -/
def put12 (w : World) (b : Nat) (n : NodeM) : World :=
  ((((((((((((w.setCell ⟨b, 0, none⟩ (.int .i64 n.kind)).setCell ⟨b, 1, none⟩ (.int .i64 n.space)).setCell ⟨b, 2, none⟩ (.string n.name)).setCell ⟨b, 3, none⟩ n.av).setCell ⟨b, 4, none⟩ (.string n.data)).setCell ⟨b, 5, none⟩ (.string n.system)).setCell
    ⟨b, 6, none⟩ (.int .i64 n.parent)).setCell ⟨b, 7, none⟩ (.int .i64 n.first)).setCell ⟨b, 8, none⟩ (.int .i64 n.last)).setCell ⟨b, 9, none⟩ (.int .i64 n.prev)).setCell ⟨b, 10, none⟩ (.int .i64 n.next)).setCell ⟨b, 11, none⟩ (.int .i64 n.inner))

theorem put12_mod (w : World) (b : Nat) (n : NodeM) : Mod (fun k => k = b) w (put12 w b n) := by
  have st : ∀ (w1 : World) (j : Nat) (v : Value), Mod (fun k => k = b) w w1 → Mod (fun k => k = b) w (w1.setCell ⟨b, j, none⟩ v) := fun w1 j v h => h.trans (Mod.setCell w1 ⟨b, j, none⟩ v rfl)
  exact st _ _ _ (st _ _ _ (st _ _ _ (st _ _ _ (st _ _ _ (st _ _ _ (st _ _ _ (st _ _ _ (st _ _ _ (st _ _ _ (st _ _ _ (st _ _ _ (Mod.refl _ _))))))))))))

theorem arr12 (a0 a1 a2 a3 a4 a5 a6 a7 a8 a9 a10 a11 v0 v1 v2 v3 v4 v5 v6 v7 v8 v9 v10 v11 : Value) :
    ((((((((((((#[a0, a1, a2, a3, a4, a5, a6, a7, a8, a9, a10, a11].setIfInBounds 0 v0).setIfInBounds 1 v1).setIfInBounds 2 v2).setIfInBounds 3 v3).setIfInBounds 4 v4).setIfInBounds 5 v5).setIfInBounds 6 v6).setIfInBounds 7 v7).setIfInBounds 8 v8).setIfInBounds 9 v9).setIfInBounds 10 v10).setIfInBounds 11 v11)
      = #[v0, v1, v2, v3, v4, v5, v6, v7, v8, v9, v10, v11] := by simp

theorem put12_block (w : World) (b : Nat) (n : NodeM) (cur : Array Value) (t : TypeId) (h : w.heap[b]? = some (.cells cur t (0, 0))) (hs : cur.size = 12) : (put12 w b n).heap[b]? = some (.cells n.cells.toArray t (0, 0)) := by
  obtain ⟨a0, a1, a2, a3, a4, a5, a6, a7, a8, a9, a10, a11, rfl⟩ := array12 cur hs
  have h0 := heap_setCell_same w b 0 _ t (.int .i64 n.kind) h
  have h1 := heap_setCell_same _ b 1 _ t (.int .i64 n.space) h0
  have h2 := heap_setCell_same _ b 2 _ t (.string n.name) h1
  have h3 := heap_setCell_same _ b 3 _ t n.av h2
  have h4 := heap_setCell_same _ b 4 _ t (.string n.data) h3
  have h5 := heap_setCell_same _ b 5 _ t (.string n.system) h4
  have h6 := heap_setCell_same _ b 6 _ t (.int .i64 n.parent) h5
  have h7 := heap_setCell_same _ b 7 _ t (.int .i64 n.first) h6
  have h8 := heap_setCell_same _ b 8 _ t (.int .i64 n.last) h7
  have h9 := heap_setCell_same _ b 9 _ t (.int .i64 n.prev) h8
  have h10 := heap_setCell_same _ b 10 _ t (.int .i64 n.next) h9
  have h11 := heap_setCell_same _ b 11 _ t (.int .i64 n.inner) h10
  rw [arr12] at h11
  exact h11

/-- What Node's two results are read as. -/
theorem node_ret (W : World) (b : Nat) (n : NodeM) (h : W.heap[b]? = some (.cells n.cells.toArray 51 (0, 0))) (tmps : Array Value) (x : Value) (h4 : tmps.getD 4 undef = .pointer (some ⟨b, 0, none⟩)) (h5 : tmps.getD 5 undef = x) :
    (results Tryz.f20 tmps).run Tryz.prog W = .ok (.tuple #[.agg n.cells.toArray, x]) W := by
  have c : ∀ j, j < 12 → W.cell? ⟨b, j, none⟩ = n.cells[j]? := fun j hj => by simp [World.cell?, h]
  have c0 := c 0 (by omega)
  have c1 := c 1 (by omega)
  have c2 := c 2 (by omega)
  have c3 := c 3 (by omega)
  have c4 := c 4 (by omega)
  have c5 := c 5 (by omega)
  have c6 := c 6 (by omega)
  have c7 := c 7 (by omega)
  have c8 := c 8 (by omega)
  have c9 := c 9 (by omega)
  have c10 := c 10 (by omega)
  have c11 := c 11 (by omega)
  clear c
  simp only [NodeM.cells, List.getElem?_cons_zero, List.getElem?_cons_succ] at c0 c1 c2 c3 c4 c5 c6 c7 c8 c9 c10 c11
  rw [results_cell_tmp (p := 4) (u := 5) (ty := 51) Tryz.results20 tmps Tryz.prog W, h4, h5]
  simp [go_sem, c0, c1, c2, c3, c4, c5, c6, c7, c8, c9, c10, c11, NodeM.cells]

set_option maxHeartbeats 2000000 in
theorem node_in {w : World} {base bA : Nat} {ns : List NodeM} {F : Nat → Prop} (h : ArS w base bA ns F) (i : Nat) (n : NodeM) (hi : ns[i]? = some n) :
    Calls Tryz.prog 20 #[.pointer (some ⟨bA, 0, none⟩), .int .i64 i] w fun e w' => ∃ ao cp, e = .returned (.tuple #[nodeV n (.slice ao n.attrs.length cp), .int .i64 0]) ∧
      w'.ownsRow base 93 4 (.slice ao n.attrs.length cp) n.attrs.length (attrRow n.attrs) ∧ Below w.heap.size w w' ∧ (∀ k, (Value.slice ao n.attrs.length cp).ownBlock = some k → w.heap.size ≤ k) := by
  have hbase := h.base_le
  obtain ⟨bS, g, cp, h, hF⟩ := h
  clear hF
  have hlt : i < ns.length := (List.getElem?_eq_some_iff.1 hi).1
  have hm := h.most
  obtain ⟨a, c, hav, hin⟩ := ownsRow_attrs (h.attrs i n hi)
  have hfew := h.few i n hi
  have ha1 := h.alloc (.cells #[.int .i64 0, .int .i64 0, .string ⟨#[]⟩, .slice none 0 0, .string ⟨#[]⟩, .string ⟨#[]⟩, .int .i64 0, .int .i64 0, .int .i64 0, .int .i64 0, .int .i64 0, .int .i64 0] 51)
  have HM := hide (made_yes ha1)
  have HH := hide (has_any ha1 i)
  have hyes : hasM ns i = true := by simp [hasM, hlt]
  rw [hyes] at HH
  obtain ⟨c0, c1, c2, c3, c4, c5, c6, c7, c8, c9, c10, c11⟩ := h.cells12 hi
  have hA := h.cA
  have hS := h.cS
  have ltg := h.lt.2.2
  have ltS := h.lt.2.1
  have ltA := h.lt.1
  rw [hav] at c3
  have HI := hide hin
  clear h ha1 hyes hi hav hin
  go_enter Tryz.func20, Tryz.ntmps20
  go_wp2_with (first
    | (go_at_call 32; refine (unhide HM).mono ?_; rintro e w' ⟨rfl, rfl⟩)
    | (go_at_call 46; refine (unhide HH).mono ?_; rintro e w' ⟨rfl, rfl⟩)
    | (go_at_call 35; refine (ownAttrs_any _ base (by simp; omega) a c n.attrs (((unhide HI).below ((Below.refl _ _).alloc (Nat.le_refl _) _)).below ((Below.refl _ _).alloc (Nat.le_refl _) _)) hfew).mono ?_; rintro e w4 ⟨ao, cp4, rfl, hov, hb4, hfr⟩; have HOV := hide hov; have HB4 := hide hb4; have HFR := hide hfr; obtain ⟨bc, bf⟩ := bcell hb4; simp at bc bf; clear hov hb4 hfr))
  have fin : ∀ w5, Mod (fun k => k = w.heap.size ∨ k = w.heap.size + 1) w4 w5 → w5.ownsRow base 93 4 (.slice ao n.attrs.length cp4) n.attrs.length (attrRow n.attrs) ∧ Below w.heap.size w w5 ∧ (∀ k, (Value.slice ao n.attrs.length cp4).ownBlock = some k → w.heap.size ≤ k) := by
    intro w5 hm5
    have hfr' : ∀ k, (Value.slice ao n.attrs.length cp4).ownBlock = some k → w.heap.size + 2 ≤ k := fun k hk => by have := (unhide HFR) k hk; simpa using this
    have hb := unhide HB4
    have b3 : Below w.heap.size w w4 := (((Below.refl _ w).alloc (Nat.le_refl _) _).alloc (by simp) _).trans (hb.mono (by simp; omega))
    refine ⟨ownsRow_kept (unhide HOV) (fun k hk => ?_), b3.trans (hm5.below b3.size (fun k hk => by omega)), fun k hk => by have := hfr' k hk; omega⟩
    obtain ⟨cur, hc⟩ := ownsRow_block (unhide HOV) hk
    exact hm5.block k (lt_of_block hc) (fun e => by have := hfr' k hk; omega)
  have hblk : (w4.setCell ⟨w.heap.size + 1, 3, none⟩ (.slice ao n.attrs.length cp4)).heap[w.heap.size]? = some (.cells #[.int .i64 0, .int .i64 0, .string ⟨#[]⟩, .slice none 0 0, .string ⟨#[]⟩, .string ⟨#[]⟩, .int .i64 0, .int .i64 0, .int .i64 0, .int .i64 0, .int .i64 0, .int .i64 0] 51 (0, 0)) := by
    rw [Below.heap_setCell _ _ _ _ (by simp), (unhide HB4).block _ (by simp; omega), Below.heap_alloc _ _ _ (by simp), last_block _ _ _ rfl]
  exact bodyPost_ret (v := .tuple #[nodeV n (.slice ao n.attrs.length cp4), .int .i64 0]) (node_ret _ w.heap.size { n with av := .slice ao n.attrs.length cp4 } (put12_block _ _ _ _ _ hblk rfl) _ _ rfl rfl) rfl
    ⟨ao, cp4, rfl, fin _ (((Mod.setCell w4 ⟨w.heap.size + 1, 3, none⟩ _ (.inr rfl))).trans ((put12_mod _ w.heap.size { n with av := .slice ao n.attrs.length cp4 }).mono (fun k _ hk => .inl hk)))⟩
end Go.Proofs.YtmnmaenmoaehlaaGreatDoor

namespace Go.Proofs.YtmnmaenmoaehlaaGreatDoor
open Go.RowKit

theorem threeS (w : World) (t : TypeId) (x y z : ByteArray) : ∀ j s, [x, y, z][j]? = some s → (w.alloc (.cells #[.string x, .string y, .string z] t)).cell? ⟨w.heap.size, j, none⟩ = some (.string s) := by
  intro j s hj
  match j, hj with
  | 0, hj => simp at hj; subst hj; simp
  | 1, hj => simp at hj; subst hj; simp
  | 2, hj => simp at hj; subst hj; simp

set_option maxHeartbeats 1000000 in
theorem node_no {w : World} {base bA : Nat} {ns : List NodeM} {F : Nat → Prop} (h : ArS w base bA ns F) (k : Int) (hk : hasM ns k = false) :
    Calls Tryz.prog 20 #[.pointer (some ⟨bA, 0, none⟩), .int .i64 k] w fun e w' => e = .returned (.tuple #[nodeZ, .int .i64 6]) ∧ Below w.heap.size w w' := by
  obtain ⟨bS, g, cap, h, hF⟩ := h
  have HM := hide (fun w' hb => made_yes (w := w') (h.below hb))
  have HH := hide (fun w' hb => has_any (h.below hb) k (w := w'))
  rw [hk] at HH
  have hb0 := Below.refl w.heap.size w
  clear h hF hk
  go_enter Tryz.func20, Tryz.ntmps20
  go_wp2_with (first
    | (go_at_call 32; refine ((unhide HM) _ (by first | assumption | exact (Below.refl _ _).alloc (Nat.le_refl _) _)).mono ?_; rintro e w' ⟨rfl, rfl⟩)
    | (go_at_call 46; refine ((unhide HH) _ (by first | assumption | exact (Below.refl _ _).alloc (Nat.le_refl _) _)).mono ?_; rintro e w' ⟨rfl, rfl⟩))
  exact bodyPost_ret (v := .tuple #[nodeZ, .int .i64 6]) (by simp [results, Tryz.results20, go_sem, nodeZ]) rfl ⟨rfl, by first | assumption | exact (Below.refl _ _).alloc (Nat.le_refl _) _⟩

end Go.Proofs.YtmnmaenmoaehlaaGreatDoor

namespace Go.Proofs.YtmnmaenmoaehlaaGreatDoor
open Go.RowKit

structure OneM where
  kind : Int
  space : Int
  name : ByteArray
  data : ByteArray
  system : ByteArray
  inner : Int
  host : Int
  up : Int
  attrs : List AttrM
  kids : List Nat

def oneM (k : Int) : OneM := { kind := k, space := 0, name := ⟨#[]⟩, data := ⟨#[]⟩, system := ⟨#[]⟩, inner := -1, host := -1, up := -1, attrs := [], kids := [] }
def hasO (os : List OneM) (k : Int) : Bool := decide (0 ≤ k ∧ k < os.length)
theorem hasO_yes {os : List OneM} {k : Int} (h : hasO os k = true) : ∃ (i : Nat) (o : OneM), k = (i : Int) ∧ os[i]? = some o := by
  have h1 := of_decide_eq_true h
  exact ⟨k.toNat, os[k.toNat]'(by omega), by omega, List.getElem?_eq_getElem (by omega)⟩
theorem hasO_of {os : List OneM} {i : Nat} {o : OneM} (h : os[i]? = some o) : hasO os (i : Int) = true := by
  have := (List.getElem?_eq_some_iff.1 h).1
  exact decide_eq_true (by omega)
def dataQ (kind : Int) (s : ByteArray) : OneM := { oneM kind with data := s }
def elemQ (space : Int) (name : ByteArray) (l : List AttrM) : OneM := { oneM 1 with space := space, name := name, attrs := l }
/-- A node more, if there is room: the nodes, its number, the error. -/
def addO (os : List OneM) (q : OneM) : List OneM × Int × Int := if os.length + 1 ≤ 32768 then (os ++ [q], (os.length : Int), 0) else (os, 0, 9)
def dataO (os : List OneM) (kind : Int) (s : ByteArray) : List OneM × Int × Int := if longS s then (os, 0, 2) else addO os (dataQ kind s)
def fragO (os : List OneM) : List OneM × Int × Int := addO os (oneM 5)
def elemO (os : List OneM) (space : Int) (name : ByteArray) (l : List AttrM) : List OneM × Int × Int :=
  if space < 0 ∨ 2 < space then (os, 0, 1)
  else if longE name l then (os, 0, 2)
  else if space = 0 ∧ isT name = true then
    (if os.length + 2 ≤ 32768 then (os ++ [{ elemQ space name l with inner := (os.length : Int) + 1 }, { oneM 5 with host := (os.length : Int) }], (os.length : Int), 0) else (os, 0, 9))
  else addO os (elemQ space name l)

theorem Tryz.info3 : (Tryz.prog.info? 3).map (fun i => (i.zero, i.size, i.bytes)) = some (some (.int .i64 0), 1, 8) := by kernel_rfl
def intsV (l : List Nat) : List Value := l.map fun (x : Nat) => Value.int .i64 (x : Int)
end Go.Proofs.YtmnmaenmoaehlaaGreatDoor
