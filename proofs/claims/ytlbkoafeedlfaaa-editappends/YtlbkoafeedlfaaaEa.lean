/-
  Package edit's small calls: has, mayFind, see, isParent, isElementName.
-/
import Derived.Test.YtlbkoafeedlfaaaOps3
import Derived.Test.YtlbkoafeedlfaaaNm3
import Derived.Deep.LoopGhost
import Derived.Laws.IdiomStrings
namespace Go.Proofs.Ytlbkoafeedlfaaa
open Go.RowKit

section
variable {w : World} {base bA : Nat} {ns : List NodeM} {os : List OneM} {F : Nat → Prop}

theorem lenO (h : ArS w base bA ns F) (hs : Sim ns os) : Calls Try.prog 17 #[.pointer (some ⟨bA, 0, none⟩)] w fun e w' => e = .returned (.int .i64 os.length) ∧ w = w' := by
  obtain ⟨bS, g, cap, h, _⟩ := h
  have := len_any h
  rw [hs.len] at this
  exact this

theorem editHas (h : ArS w base bA ns F) (hs : Sim ns os) (i : Nat) (hi : i < os.length) :
    Calls Try.prog 105 #[.pointer (some ⟨bA, 0, none⟩), .int .i64 i] w fun e w' => e = .returned (.bool true) ∧ w = w' := by
  have HL := hide (lenO h hs)
  have h1 : (0 : Int) ≤ (i : Int) := by omega
  have h2 : (i : Int) < (os.length : Int) := by omega
  clear h hs
  go_enter Try.func105, Try.ntmps105
  go_wp2_with (first | (go_at_call 17; refine (unhide HL).mono ?_; rintro e w' ⟨rfl, rfl⟩))
  go_ret
  exact ⟨rfl, rfl⟩

theorem mayFind_one (h : ArS w base bA ns F) (hs : Sim ns os) (i : Nat) (hi : i < os.length) (b c : Nat) (hc : w.cell? ⟨b, 0, none⟩ = some (.int .i64 i)) :
    Calls Try.prog 59 #[.pointer (some ⟨bA, 0, none⟩), .slice (some ⟨b, 0, none⟩) 1 c] w fun e w' => e = .returned (.int .i64 0) ∧ w = w' := by
  have HL := hide (lenO h hs)
  have HH := hide (editHas h hs i hi)
  have hm : os.length ≤ 32768 := by
    obtain ⟨bS, g, cap, h, _⟩ := h
    rw [← hs.len]; exact h.most
  have h0 : ¬ (os.length : Int) = 0 := by omega
  have h1 : ((os.length : Int) == 0) = false := by simpa using h0
  clear h hs
  go_enter Try.func59, Try.ntmps59
  go_wp2_with (first | (go_at_call 17; refine (unhide HL).mono ?_; rintro e w' ⟨rfl, rfl⟩))
  go_loop [12] (fun s => s = .int .i64 0 ∨ s = .int .i64 1) (fun s => (1 - intOf s).toNat)
  case atStart => exact .inl rfl
  case round =>
    rcases hrel with rfl | rfl
    · go_wp2_with (first | (go_at_call 105; refine (unhide HH).mono ?_; rintro e w' ⟨rfl, rfl⟩))
      go_round
      case rel => exact .inr rfl
      case measure => simp [intOf]
    · go_wp2
      go_ret
      exact ⟨rfl, rfl⟩

theorem see_ret (W : World) (b : Nat) (n : NodeM) (h : W.heap[b]? = some (.cells n.cells.toArray 37 (0, 0))) (tmps : Array Value) (h4 : tmps.getD 4 undef = .pointer (some ⟨b, 0, none⟩)) :
    (results Try.f108 tmps).run Try.prog W = .ok (.agg n.cells.toArray) W := by
  have c : ∀ j, j < 12 → W.cell? ⟨b, j, none⟩ = n.cells[j]? := fun j hj => by simp [World.cell?, h]
  have c0 := c 0 (by omega)
  have c1 := c 1 (by omega)
  have c2 := c 2 (by omega)
  have c3 := c 3 (by omega)
  have c4 := c 4 (by omega)
  have c5 := c 5 (by omega)
  have c6 := c 6 (by omega)
  have c7 := c 7 (by omega)
  have c8 := c 8 (by omega)
  have c9 := c 9 (by omega)
  have c10 := c 10 (by omega)
  have c11 := c 11 (by omega)
  clear c
  simp only [NodeM.cells, List.getElem?_cons_zero, List.getElem?_cons_succ] at c0 c1 c2 c3 c4 c5 c6 c7 c8 c9 c10 c11
  have h4' : tmps[4]?.getD undef = .pointer (some ⟨b, 0, none⟩) := by simpa using h4
  simp [results, Try.results108, go_sem, h4', c0, c1, c2, c3, c4, c5, c6, c7, c8, c9, c10, c11, NodeM.cells]

theorem zeroE_cells {W : World} {b : Nat} (h : W.heap[b]? = some (.cells #[.int .i64 0, .int .i64 0, .string ⟨#[]⟩, .slice none 0 0, .string ⟨#[]⟩, .string ⟨#[]⟩, .int .i64 0, .int .i64 0, .int .i64 0, .int .i64 0, .int .i64 0, .int .i64 0] 37 (0, 0))) : W.cell? ⟨b, 0, none⟩ = some (.int .i64 0) ∧ W.cell? ⟨b, 1, none⟩ = some (.int .i64 0) ∧ W.cell? ⟨b, 2, none⟩ = some (.string ⟨#[]⟩) ∧ W.cell? ⟨b, 3, none⟩ = some (.slice none 0 0) ∧ W.cell? ⟨b, 4, none⟩ = some (.string ⟨#[]⟩) ∧ W.cell? ⟨b, 5, none⟩ = some (.string ⟨#[]⟩) ∧
    W.cell? ⟨b, 6, none⟩ = some (.int .i64 0) ∧ W.cell? ⟨b, 7, none⟩ = some (.int .i64 0) ∧ W.cell? ⟨b, 8, none⟩ = some (.int .i64 0) ∧ W.cell? ⟨b, 9, none⟩ = some (.int .i64 0) ∧ W.cell? ⟨b, 10, none⟩ = some (.int .i64 0) ∧ W.cell? ⟨b, 11, none⟩ = some (.int .i64 0) ∧ ∀ j, W.frozen? ⟨b, j, none⟩ = false := by
  refine ⟨?_, ?_, ?_, ?_, ?_, ?_, ?_, ?_, ?_, ?_, ?_, ?_, fun j => by simp [World.frozen?, h]⟩ <;> (rw [cell_of_row W b _ _ _ _ h]; rfl)

set_option maxHeartbeats 1000000 in
theorem see_in (h : ArS w base bA ns F) (i : Nat) (n : NodeM) (hi : ns[i]? = some n) :
    Calls Try.prog 108 #[.pointer (some ⟨bA, 0, none⟩), .int .i64 i] w fun e w' => ∃ ao cp, e = .returned (.agg { n with av := .slice ao n.attrs.length cp }.cells.toArray) ∧ Below w.heap.size w w' := by
  have HN := hide (node_in (h.below ((Below.refl _ w).alloc (Nat.le_refl _) (.cells #[.int .i64 0, .int .i64 0, .string ⟨#[]⟩, .slice none 0 0, .string ⟨#[]⟩, .string ⟨#[]⟩, .int .i64 0, .int .i64 0, .int .i64 0, .int .i64 0, .int .i64 0, .int .i64 0] 37))) i n hi)
  clear h hi
  go_enter Try.func108, Try.ntmps108
  go_wp2_with (first | (go_at_call 18; refine (unhide HN).mono ?_; rintro e w5 ⟨ao, cp, rfl, _, hb5, _⟩; have hz5 := (hb5.block w.heap.size (by simp)).trans (heap_alloc_new w _); obtain ⟨e0, e1, e2, e3, e4, e5, e6, e7, e8, e9, e10, e11, ef⟩ := zeroE_cells hz5; have hl5 := lt_of_block hz5; have hne5 : w.heap.size ≠ w5.heap.size := Nat.ne_of_lt hl5; have HZ5 := hide hz5; have HB5 := hide hb5; clear hb5 hz5; unfold nodeV NodeM.cells))
  have hput := put12_block w5 w.heap.size { n with av := .slice ao n.attrs.length cp } _ 37 (unhide HZ5) rfl
  have hmod := put12_mod w5 w.heap.size { n with av := .slice ao n.attrs.length cp }
  have hret := fun tmps h4 => see_ret ((put12 w5 w.heap.size { n with av := .slice ao n.attrs.length cp }).alloc (.cells { n with av := .slice ao n.attrs.length cp }.cells.toArray 37)) w.heap.size { n with av := .slice ao n.attrs.length cp } ((Below.heap_alloc _ _ _ (lt_of_block hput)).trans hput) tmps h4
  have hb5 : Below w.heap.size w w5 := ((Below.refl _ w).alloc (Nat.le_refl _) _).trans ((unhide HB5).mono (by simp))
  have hbp := hb5.trans (hmod.below hb5.size (fun k hk => Nat.le_of_eq hk.symm))
  exact bodyPost_ret (hret _ rfl) rfl ⟨ao, cp, rfl, hbp.alloc hbp.size _⟩

theorem see_plain (h : ArS w base bA ns F) (i : Nat) (n : NodeM) (hi : ns[i]? = some n) :
    Calls Try.prog 108 #[.pointer (some ⟨bA, 0, none⟩), .int .i64 i] w fun e w' => ∃ ao cp, e = .returned (.agg #[.int .i64 n.kind, .int .i64 n.space, .string n.name, .slice ao n.attrs.length cp, .string n.data, .string n.system, .int .i64 n.parent, .int .i64 n.first, .int .i64 n.last, .int .i64 n.prev, .int .i64 n.next, .int .i64 n.inner]) ∧ Below w.heap.size w w' :=
  (see_in h i n hi).mono fun _ _ ⟨ao, cp, h1, h2⟩ => ⟨ao, cp, h1, h2⟩

theorem field0 (w : World) (k v1 v6 v7 v8 v9 v10 v11 : Int) (v2 v4 v5 : ByteArray) (ao : Option Addr) (q cp : Nat) :
    (Instr.field 37 (.agg #[.int .i64 k, .int .i64 v1, .string v2, .slice ao q cp, .string v4, .string v5, .int .i64 v6, .int .i64 v7, .int .i64 v8, .int .i64 v9, .int .i64 v10, .int .i64 v11]) 0).run Try.prog w = .ok (.int .i64 k) w := by
  kernel_rfl

theorem editParent (h : ArS w base bA ns F) (hs : Sim ns os) (i : Nat) (o : OneM) (ho : os[i]? = some o) :
    Calls Try.prog 61 #[.pointer (some ⟨bA, 0, none⟩), .int .i64 i] w fun e w' => e = .returned (.bool (parentM o.kind)) ∧ Below w.heap.size w w' := by
  obtain ⟨n, hn, sm⟩ := hs.get ho
  have HS := hide (see_plain h i n hn)
  have hk : n.kind = o.kind := sm.kind
  generalize o.kind = k at hk
  have hfd := field0
  clear h hs ho hn sm
  subst hk
  unfold parentM
  by_cases h0 : n.kind = 0
  · have b0 : (n.kind == 0) = true := by simpa using h0
    go_enter Try.func61, Try.ntmps61
    set_option maxRecDepth 10000 in
    go_wp2_with (first | (go_at_call 108; refine (unhide HS).mono ?_; rintro e w5 ⟨ao, cp, rfl, hb5⟩; have HB5 := hide hb5; clear hb5))
    go_ret
    exact ⟨by simp [h0], unhide HB5⟩
  · have b0 : (n.kind == 0) = false := by simpa using h0
    by_cases h1 : n.kind = 1
    · have b1 : (n.kind == 1) = true := by simpa using h1
      go_enter Try.func61, Try.ntmps61
      set_option maxRecDepth 10000 in
      go_wp2_with (first | (go_at_call 108; refine (unhide HS).mono ?_; rintro e w5 ⟨ao, cp, rfl, hb5⟩; have HB5 := hide hb5; clear hb5))
      go_ret
      exact ⟨by simp [h1], unhide HB5⟩
    · have b1 : (n.kind == 1) = false := by simpa using h1
      by_cases h5 : n.kind = 5
      · have b5 : (n.kind == 5) = true := by simpa using h5
        go_enter Try.func61, Try.ntmps61
        set_option maxRecDepth 10000 in
        go_wp2_with (first | (go_at_call 108; refine (unhide HS).mono ?_; rintro e w5 ⟨ao, cp, rfl, hb5⟩; have HB5 := hide hb5; clear hb5))
        go_ret
        exact ⟨by simp [h5], unhide HB5⟩
      · have b5 : (n.kind == 5) = false := by simpa using h5
        go_enter Try.func61, Try.ntmps61
        set_option maxRecDepth 10000 in
        go_wp2_with (first | (go_at_call 108; refine (unhide HS).mono ?_; rintro e w5 ⟨ao, cp, rfl, hb5⟩; have HB5 := hide hb5; clear hb5))
        go_ret
        exact ⟨by simp [h0, h1, h5], unhide HB5⟩
end

theorem isCap_any (c : UInt8) (w : World) : Calls Try.prog 107 #[.int .u8 c.toNat] w fun e w' => e = .returned (.bool (decide (65 ≤ c.toNat) && decide (c.toNat ≤ 90))) ∧ w' = w := by
  by_cases h1 : (65 : Int) ≤ (c.toNat : Int)
  · by_cases h2 : (c.toNat : Int) ≤ 90
    · go_enter Try.func107, Try.ntmps107
      go_wp2
      go_ret
      exact ⟨by simp; omega, rfl⟩
    · go_enter Try.func107, Try.ntmps107
      go_wp2
      go_ret
      exact ⟨by simp; omega, rfl⟩
  · go_enter Try.func107, Try.ntmps107
    go_wp2
    go_ret
    exact ⟨by simp; omega, rfl⟩

theorem elemName_html (w : World) : Calls Try.prog 60 #[.string ⟨#[72, 84, 77, 76]⟩] w fun e w' => e = .returned (.bool true) ∧ Below w.heap.size w w' := by
  have HN := hide (name_any ⟨#[72, 84, 77, 76]⟩ w (by decide))
  rw [show nameM ⟨#[72, 84, 77, 76]⟩ = true by decide] at HN
  have HC := hide (isCap_any 72)
  go_enter Try.func60, Try.ntmps60
  go_wp2_with (first | (go_at_call 106; refine (unhide HN).mono ?_; rintro e w5 ⟨rfl, hb5⟩; have HB5 := hide hb5; clear hb5) | (go_at_call 107; refine ((unhide HC) _).mono ?_; rintro e w' ⟨rfl, rfl⟩))
  go_ret
  exact ⟨rfl, unhide HB5⟩
theorem elemName_div (w : World) : Calls Try.prog 60 #[.string ⟨#[100, 105, 118]⟩] w fun e w' => e = .returned (.bool true) ∧ Below w.heap.size w w' := by
  have HN := hide (name_any ⟨#[100, 105, 118]⟩ w (by decide))
  rw [show nameM ⟨#[100, 105, 118]⟩ = true by decide] at HN
  have HC := hide (isCap_any 100)
  go_enter Try.func60, Try.ntmps60
  go_wp2_with (first | (go_at_call 106; refine (unhide HN).mono ?_; rintro e w5 ⟨rfl, hb5⟩; have HB5 := hide hb5; clear hb5) | (go_at_call 107; refine ((unhide HC) _).mono ?_; rintro e w' ⟨rfl, rfl⟩))
  go_ret
  exact ⟨rfl, unhide HB5⟩
theorem elemName_b (w : World) : Calls Try.prog 60 #[.string ⟨#[66]⟩] w fun e w' => e = .returned (.bool true) ∧ Below w.heap.size w w' := by
  have HN := hide (name_any ⟨#[66]⟩ w (by decide))
  rw [show nameM ⟨#[66]⟩ = true by decide] at HN
  have HC := hide (isCap_any 66)
  go_enter Try.func60, Try.ntmps60
  go_wp2_with (first | (go_at_call 106; refine (unhide HN).mono ?_; rintro e w5 ⟨rfl, hb5⟩; have HB5 := hide hb5; clear hb5) | (go_at_call 107; refine ((unhide HC) _).mono ?_; rintro e w' ⟨rfl, rfl⟩))
  go_ret
  exact ⟨rfl, unhide HB5⟩
theorem elemName_x1 (w : World) : Calls Try.prog 60 #[.string ⟨#[120, 49]⟩] w fun e w' => e = .returned (.bool true) ∧ Below w.heap.size w w' := by
  have HN := hide (name_any ⟨#[120, 49]⟩ w (by decide))
  rw [show nameM ⟨#[120, 49]⟩ = true by decide] at HN
  have HC := hide (isCap_any 120)
  go_enter Try.func60, Try.ntmps60
  go_wp2_with (first | (go_at_call 106; refine (unhide HN).mono ?_; rintro e w5 ⟨rfl, hb5⟩; have HB5 := hide hb5; clear hb5) | (go_at_call 107; refine ((unhide HC) _).mono ?_; rintro e w' ⟨rfl, rfl⟩))
  go_ret
  exact ⟨rfl, unhide HB5⟩
theorem elemName_span (w : World) : Calls Try.prog 60 #[.string ⟨#[83, 112, 97, 110]⟩] w fun e w' => e = .returned (.bool true) ∧ Below w.heap.size w w' := by
  have HN := hide (name_any ⟨#[83, 112, 97, 110]⟩ w (by decide))
  rw [show nameM ⟨#[83, 112, 97, 110]⟩ = true by decide] at HN
  have HC := hide (isCap_any 83)
  go_enter Try.func60, Try.ntmps60
  go_wp2_with (first | (go_at_call 106; refine (unhide HN).mono ?_; rintro e w5 ⟨rfl, hb5⟩; have HB5 := hide hb5; clear hb5) | (go_at_call 107; refine ((unhide HC) _).mono ?_; rintro e w' ⟨rfl, rfl⟩))
  go_ret
  exact ⟨rfl, unhide HB5⟩

def lowB (c : UInt8) : UInt8 := if 65 ≤ c.toNat ∧ c.toNat ≤ 90 then c + 32 else c
def rowB (l : List UInt8) (j k : Nat) : Option Value := (l[k]?).map fun c => Value.int .u8 ((if k < j then lowB c else c).toNat : Int)

theorem bytesRow_get (s : ByteArray) (cap k : Nat) (hk : k < s.size) : (bytesRow s cap)[k]? = (s.data.toList[k]?).map fun c => Value.int .u8 (c.toNat : Int) := by
  have hk' : k < s.data.size := hk
  unfold bytesRow
  rw [Array.getElem?_append_left (by simpa using hk')]
  simp

theorem lowB_cap (c : UInt8) (h1 : 65 ≤ c.toNat) (h2 : c.toNat ≤ 90) : ((lowB c).toNat : Int) = (c.toNat : Int) + 32 := by
  have e : lowB c = c + 32 := by unfold lowB; rw [if_pos ⟨h1, h2⟩]
  rw [e, UInt8.toNat_add]
  have : (32 : UInt8).toNat = 32 := rfl
  omega
theorem lowB_other (c : UInt8) (h : ¬ (65 ≤ c.toNat ∧ c.toNat ≤ 90)) : lowB c = c := by unfold lowB; rw [if_neg h]

structure LowAt (w wx : World) (l : List UInt8) (j : Nat) : Prop where
  cells : ∀ k c, l[k]? = some c → wx.cell? ⟨w.heap.size, k, none⟩ = some (.int .u8 ((if k < j then lowB c else c).toNat : Int))
  free : ∀ k, k < l.length → wx.frozen? ⟨w.heap.size, k, none⟩ = false
  below : Below w.heap.size w wx

theorem LowAt.same {w wx : World} {l : List UInt8} {j : Nat} (h : LowAt w wx l j) {c : UInt8} (hc : l[j]? = some c) (hl : lowB c = c) : LowAt w wx l (j + 1) :=
  ⟨fun k d hd => by
    rw [h.cells k d hd]
    by_cases e : k = j
    · subst e; rw [hc] at hd; cases hd; simp [hl]
    · by_cases e2 : k < j
      · rw [if_pos e2, if_pos (by omega)]
      · rw [if_neg e2, if_neg (by omega)], h.free, h.below⟩
theorem LowAt.put {w wx : World} {l : List UInt8} {j : Nat} (h : LowAt w wx l j) {c : UInt8} (hc : l[j]? = some c) {v : Int} (hv : v = ((lowB c).toNat : Int)) (hcell : ∃ u, wx.cell? ⟨w.heap.size, j, none⟩ = some u) : LowAt w (wx.setCell ⟨w.heap.size, j, none⟩ (.int .u8 v)) l (j + 1) := by
  subst hv
  refine ⟨fun k d hd => ?_, fun k hk => ?_, h.below.setCell (Nat.le_refl _) _⟩
  · by_cases e : k = j
    · subst e
      rw [hc] at hd; cases hd
      obtain ⟨u, hu⟩ := hcell
      rw [World.cell?_setCell_same' _ _ _ (by rw [hu]; rfl)]
      simp
    · rw [show (wx.setCell ⟨w.heap.size, j, none⟩ (.int .u8 ((lowB c).toNat : Int))).cell? ⟨w.heap.size, k, none⟩ = wx.cell? ⟨w.heap.size, k, none⟩ by apply World.cell?_setCell_other; intro e2; cases e2; exact e rfl, h.cells k d hd]
      by_cases e2 : k < j
      · rw [if_pos e2, if_pos (by omega)]
      · rw [if_neg e2, if_neg (by omega)]
  · rw [World.frozen?_setCell]; exact h.free k hk
theorem len_data (s : ByteArray) : s.data.toList.length = s.size := by show _ = s.data.size; simp

theorem low_start (w : World) (s : ByteArray) (cap : Nat) (_hcap : s.size ≤ cap) : LowAt w (w.drew.alloc (.cells (bytesRow s cap) 5 ((bytesRow s cap).size, (bytesRow s cap).size + 1))) s.data.toList 0 := by
  have hb : (w.drew.alloc (.cells (bytesRow s cap) 5 ((bytesRow s cap).size, (bytesRow s cap).size + 1))).heap[w.heap.size]? = some (.cells (bytesRow s cap) 5 ((bytesRow s cap).size, (bytesRow s cap).size + 1)) := heap_alloc_new w.drew _
  have hsz : s.size ≤ (bytesRow s cap).size := by
    have e : s.size = s.data.size := rfl
    unfold bytesRow
    rw [Array.size_append, Array.size_map]
    omega
  refine ⟨fun k c hc => ?_, fun k hk => ?_, (Below.refl _ w).drew.alloc (Nat.le_refl _) _⟩
  · have hk : k < s.size := by have := (List.getElem?_eq_some_iff.1 hc).1; rwa [len_data] at this
    rw [cell_of_row _ w.heap.size k _ _ _ hb, bytesRow_get s cap k hk, hc]
    simp
  · have hk' : k < s.size := by rwa [len_data] at hk
    unfold World.frozen?
    simp only [hb]
    simp
    omega

set_option maxHeartbeats 2000000 in
theorem small_any (s : ByteArray) (w : World) (hs : s.size ≤ 100) :
    Calls Try.prog 63 #[.string s] w fun e w' => e = .returned (.string ⟨(s.data.toList.map lowB).toArray⟩) ∧ Below w.heap.size w w' := by
  have hcv := fun W => run_bytes_of_string (P := Try.prog) W 9 46 5 s Try.underlying9 Try.underlying46 Try.underlying5
  have hn := len_data s
  have HN := hide hn
  clear hn
  obtain ⟨cap, hcap⟩ : ∃ cap, cap = grownCap w s.size 0 5 := ⟨_, rfl⟩
  have HLS : Hid (LowAt w (w.drew.alloc (.cells (bytesRow s cap) 5 ((bytesRow s cap).size, (bytesRow s cap).size + 1))) s.data.toList 0) := hide (low_start w s cap (by rw [hcap]; exact grownCap_ge w s.size 0 5))
  rw [hcap] at HLS
  have HBK : Hid (∀ W, LowAt w W s.data.toList s.size → (convert 46 9 (.slice (some ⟨w.heap.size, 0, none⟩) s.size cap)).run Try.prog W = .ok (.string ⟨(s.data.toList.map lowB).toArray⟩) W) := hide (fun W hW => by
    have := run_convert_bytes_back (P := Try.prog) W 46 9 5 ⟨w.heap.size, 0, none⟩ cap (s.data.toList.map lowB) Try.underlying46 Try.underlying5 Try.underlying9 (fun j hj => by
      have hj' : j < s.data.toList.length := by simpa using hj
      have := hW.cells j _ (List.getElem?_eq_getElem hj')
      rw [if_pos (by rw [← unhide HN]; exact hj')] at this
      have ad : (⟨w.heap.size, 0, none⟩ : Addr).add j = ⟨w.heap.size, j, none⟩ := by unfold Addr.add; split <;> simp_all
      rw [ad, this]
      simp)
    rw [List.length_map, unhide HN] at this
    exact this)
  rw [hcap] at HBK
  clear hcap
  have hsz : (s.size : Int) ≤ 100 := by omega
  go_enter Try.func63, Try.ntmps63
  go_wp2
  go_loopg [10] s.size (fun k sl wx => ∃ j : Nat, sl = .int .i64 j ∧ j + k = s.size ∧ LowAt w wx s.data.toList j)
  case atStart => exact ⟨0, rfl, by omega, unhide HLS⟩
  case round =>
    obtain ⟨j, rfl, hjk, hlo⟩ := hrel
    by_cases hj : j < s.size
    · have hjz : (j : Int) < (s.size : Int) := by omega
      have hx : s.data.toList[j]? = some s.data.toList[j] := List.getElem?_eq_getElem (by rw [unhide HN]; exact hj)
      generalize s.data.toList[j] = c at hx
      have d0 := hlo.cells j c hx
      rw [if_neg (Nat.lt_irrefl _)] at d0
      have f0 := hlo.free j (by rw [unhide HN]; exact hj)
      have HLO := hide hlo
      have HX := hide hx
      have HC := hide (isCap_any c)
      clear hlo hx
      by_cases h1 : 65 ≤ c.toNat ∧ c.toNat ≤ 90
      · have hb : (decide (65 ≤ c.toNat) && decide (c.toNat ≤ 90)) = true := by simpa using h1
        rw [hb] at HC
        obtain ⟨h2, h3⟩ := h1
        have HLC := hide (lowB_cap c h2 h3)
        have h2' : (65 : Int) ≤ (c.toNat : Int) := by omega
        have h3' : (c.toNat : Int) ≤ 90 := by omega
        clear hb
        go_wp2_with (first | (go_at_call 107; refine ((unhide HC) _).mono ?_; rintro e w' ⟨rfl, rfl⟩))
        go_roundg (gk - 1)
        case measure => omega
        case rel => exact ⟨j + 1, by go_num, by omega, (unhide HLO).put (unhide HX) (by rw [unhide HLC]; omega) ⟨_, d0⟩⟩
      · have hb : (decide (65 ≤ c.toNat) && decide (c.toNat ≤ 90)) = false := by simpa using h1
        rw [hb] at HC
        have HLC := hide (lowB_other c h1)
        clear hb h1
        go_wp2_with (first | (go_at_call 107; refine ((unhide HC) _).mono ?_; rintro e w' ⟨rfl, rfl⟩))
        go_roundg (gk - 1)
        case measure => omega
        case rel => exact ⟨j + 1, by go_num, by omega, (unhide HLO).same (unhide HX) (unhide HLC)⟩
    · have hjz : ¬ (j : Int) < (s.size : Int) := by omega
      obtain rfl : j = s.size := by omega
      have hbk := (unhide HBK) _ hlo
      have HLO := hide hlo.below
      clear hlo
      go_wp2
      go_ret
      exact ⟨rfl, unhide HLO⟩
end Go.Proofs.Ytlbkoafeedlfaaa
