/-
  Package edit's small calls.
-/
import Derived.Test.YtnclnijlpchdnaaGreatOps3
import Derived.Test.YtnclnijlpchdnaaGreatNmM
import Derived.Deep.LoopGhost
import Derived.Laws.IdiomStrings
import Derived.Test.YtnclnijlpchdnaaGreatRfB
import Derived.Deep.QuietTactic
import Derived.BigQuiet
namespace Go.Proofs.YtnclnijlpchdnaaGreat
open Go.RowKit

section
variable {w : World} {base bA : Nat} {ns : List NodeM} {os : List OneM} {F : Nat → Prop}

theorem lenO (h : ArS w base bA ns F) (hs : Sim ns os) : Calls Tryz.prog 34 #[.pointer (some ⟨bA, 0, none⟩)] w fun e w' => e = .returned (.int .i64 os.length) ∧ w = w' := by
  obtain ⟨bS, g, cap, h, _⟩ := h
  have := len_any h
  rw [hs.len] at this
  exact this

theorem editHas (h : ArS w base bA ns F) (hs : Sim ns os) (i : Nat) (hi : i < os.length) :
    Calls Tryz.prog 64 #[.pointer (some ⟨bA, 0, none⟩), .int .i64 i] w fun e w' => e = .returned (.bool true) ∧ w = w' := by
  have HL := hide (lenO h hs)
  have h1 : (0 : Int) ≤ (i : Int) := by omega
  have h2 : (i : Int) < (os.length : Int) := by omega
  clear h hs
  go_enter Tryz.func64, Tryz.ntmps64
  go_wp2_with (first | (go_at_call 34; refine (unhide HL).mono ?_; rintro e w' ⟨rfl, rfl⟩))
  go_ret
  exact ⟨rfl, rfl⟩

theorem mayFind_one (h : ArS w base bA ns F) (hs : Sim ns os) (i : Nat) (hi : i < os.length) (b c : Nat) (hc : w.cell? ⟨b, 0, none⟩ = some (.int .i64 i)) :
    Calls Tryz.prog 45 #[.pointer (some ⟨bA, 0, none⟩), .slice (some ⟨b, 0, none⟩) 1 c] w fun e w' => e = .returned (.int .i64 0) ∧ w = w' := by
  have HL := hide (lenO h hs)
  have HH := hide (editHas h hs i hi)
  have hm : os.length ≤ 32768 := by
    obtain ⟨bS, g, cap, h, _⟩ := h
    rw [← hs.len]; exact h.most
  have h0 : ¬ (os.length : Int) = 0 := by omega
  have h1 : ((os.length : Int) == 0) = false := by simpa using h0
  clear h hs
  go_enter Tryz.func45, Tryz.ntmps45
  go_wp2_with (first | (go_at_call 34; refine (unhide HL).mono ?_; rintro e w' ⟨rfl, rfl⟩))
  go_loop [12] (fun s => s = .int .i64 0 ∨ s = .int .i64 1) (fun s => (1 - intOf s).toNat)
  case atStart => exact .inl rfl
  case round =>
    rcases hrel with rfl | rfl
    · go_wp2_with (first | (go_at_call 64; refine (unhide HH).mono ?_; rintro e w' ⟨rfl, rfl⟩))
      go_round
      case rel => exact .inr rfl
      case measure => simp [intOf]
    · go_wp2
      go_ret
      exact ⟨rfl, rfl⟩

theorem see_ret (W : World) (b : Nat) (n : NodeM) (h : W.heap[b]? = some (.cells n.cells.toArray 36 (0, 0))) (tmps : Array Value) (h4 : tmps.getD 4 undef = .pointer (some ⟨b, 0, none⟩)) :
    (results Tryz.f40 tmps).run Tryz.prog W = .ok (.agg n.cells.toArray) W := by
  have c : ∀ j, j < 12 → W.cell? ⟨b, j, none⟩ = n.cells[j]? := fun j hj => by simp [World.cell?, h]
  have c0 := c 0 (by omega)
  have c1 := c 1 (by omega)
  have c2 := c 2 (by omega)
  have c3 := c 3 (by omega)
  have c4 := c 4 (by omega)
  have c5 := c 5 (by omega)
  have c6 := c 6 (by omega)
  have c7 := c 7 (by omega)
  have c8 := c 8 (by omega)
  have c9 := c 9 (by omega)
  have c10 := c 10 (by omega)
  have c11 := c 11 (by omega)
  clear c
  simp only [NodeM.cells, List.getElem?_cons_zero, List.getElem?_cons_succ] at c0 c1 c2 c3 c4 c5 c6 c7 c8 c9 c10 c11
  have h4' : tmps[4]?.getD undef = .pointer (some ⟨b, 0, none⟩) := by simpa using h4
  simp [results, Tryz.results40, go_sem, h4', c0, c1, c2, c3, c4, c5, c6, c7, c8, c9, c10, c11, NodeM.cells]

theorem zeroE_cells {W : World} {b : Nat} (h : W.heap[b]? = some (.cells #[.int .i64 0, .int .i64 0, .string ⟨#[]⟩, .slice none 0 0, .string ⟨#[]⟩, .string ⟨#[]⟩, .int .i64 0, .int .i64 0, .int .i64 0, .int .i64 0, .int .i64 0, .int .i64 0] 36 (0, 0))) : W.cell? ⟨b, 0, none⟩ = some (.int .i64 0) ∧ W.cell? ⟨b, 1, none⟩ = some (.int .i64 0) ∧ W.cell? ⟨b, 2, none⟩ = some (.string ⟨#[]⟩) ∧ W.cell? ⟨b, 3, none⟩ = some (.slice none 0 0) ∧ W.cell? ⟨b, 4, none⟩ = some (.string ⟨#[]⟩) ∧ W.cell? ⟨b, 5, none⟩ = some (.string ⟨#[]⟩) ∧
    W.cell? ⟨b, 6, none⟩ = some (.int .i64 0) ∧ W.cell? ⟨b, 7, none⟩ = some (.int .i64 0) ∧ W.cell? ⟨b, 8, none⟩ = some (.int .i64 0) ∧ W.cell? ⟨b, 9, none⟩ = some (.int .i64 0) ∧ W.cell? ⟨b, 10, none⟩ = some (.int .i64 0) ∧ W.cell? ⟨b, 11, none⟩ = some (.int .i64 0) ∧ ∀ j, W.frozen? ⟨b, j, none⟩ = false := by
  refine ⟨?_, ?_, ?_, ?_, ?_, ?_, ?_, ?_, ?_, ?_, ?_, ?_, fun j => by simp [World.frozen?, h]⟩ <;> (rw [cell_of_row W b _ _ _ _ h]; rfl)

set_option maxHeartbeats 1000000 in
theorem see_in (h : ArS w base bA ns F) (i : Nat) (n : NodeM) (hi : ns[i]? = some n) :
    Calls Tryz.prog 40 #[.pointer (some ⟨bA, 0, none⟩), .int .i64 i] w fun e w' => ∃ ao cp, e = .returned (.agg { n with av := .slice ao n.attrs.length cp }.cells.toArray) ∧ Below w.heap.size w w' := by
  have HN := hide (node_in (h.below ((Below.refl _ w).alloc (Nat.le_refl _) (.cells #[.int .i64 0, .int .i64 0, .string ⟨#[]⟩, .slice none 0 0, .string ⟨#[]⟩, .string ⟨#[]⟩, .int .i64 0, .int .i64 0, .int .i64 0, .int .i64 0, .int .i64 0, .int .i64 0] 36))) i n hi)
  clear h hi
  go_enter Tryz.func40, Tryz.ntmps40
  go_wp2_with (first | (go_at_call 12; refine (unhide HN).mono ?_; rintro e w5 ⟨ao, cp, rfl, _, hb5, _⟩; have hz5 := (hb5.block w.heap.size (by simp)).trans (heap_alloc_new w _); obtain ⟨e0, e1, e2, e3, e4, e5, e6, e7, e8, e9, e10, e11, ef⟩ := zeroE_cells hz5; have hl5 := lt_of_block hz5; have hne5 : w.heap.size ≠ w5.heap.size := Nat.ne_of_lt hl5; have HZ5 := hide hz5; have HB5 := hide hb5; clear hb5 hz5; unfold nodeV NodeM.cells))
  have hput := put12_block w5 w.heap.size { n with av := .slice ao n.attrs.length cp } _ 36 (unhide HZ5) rfl
  have hmod := put12_mod w5 w.heap.size { n with av := .slice ao n.attrs.length cp }
  have hret := fun tmps h4 => see_ret ((put12 w5 w.heap.size { n with av := .slice ao n.attrs.length cp }).alloc (.cells { n with av := .slice ao n.attrs.length cp }.cells.toArray 36)) w.heap.size { n with av := .slice ao n.attrs.length cp } ((Below.heap_alloc _ _ _ (lt_of_block hput)).trans hput) tmps h4
  have hb5 : Below w.heap.size w w5 := ((Below.refl _ w).alloc (Nat.le_refl _) _).trans ((unhide HB5).mono (by simp))
  have hbp := hb5.trans (hmod.below hb5.size (fun k hk => Nat.le_of_eq hk.symm))
  exact bodyPost_ret (hret _ rfl) rfl ⟨ao, cp, rfl, hbp.alloc hbp.size _⟩

theorem see_plain (h : ArS w base bA ns F) (i : Nat) (n : NodeM) (hi : ns[i]? = some n) :
    Calls Tryz.prog 40 #[.pointer (some ⟨bA, 0, none⟩), .int .i64 i] w fun e w' => ∃ ao cp, e = .returned (.agg #[.int .i64 n.kind, .int .i64 n.space, .string n.name, .slice ao n.attrs.length cp, .string n.data, .string n.system, .int .i64 n.parent, .int .i64 n.first, .int .i64 n.last, .int .i64 n.prev, .int .i64 n.next, .int .i64 n.inner]) ∧ Below w.heap.size w w' :=
  (see_in h i n hi).mono fun _ _ ⟨ao, cp, h1, h2⟩ => ⟨ao, cp, h1, h2⟩

theorem field0 (w : World) (k v1 v6 v7 v8 v9 v10 v11 : Int) (v2 v4 v5 : ByteArray) (ao : Option Addr) (q cp : Nat) :
    (Instr.field 36 (.agg #[.int .i64 k, .int .i64 v1, .string v2, .slice ao q cp, .string v4, .string v5, .int .i64 v6, .int .i64 v7, .int .i64 v8, .int .i64 v9, .int .i64 v10, .int .i64 v11]) 0).run Tryz.prog w = .ok (.int .i64 k) w := by
  kernel_rfl

theorem editParent (h : ArS w base bA ns F) (hs : Sim ns os) (i : Nat) (o : OneM) (ho : os[i]? = some o) :
    Calls Tryz.prog 46 #[.pointer (some ⟨bA, 0, none⟩), .int .i64 i] w fun e w' => e = .returned (.bool (parentM o.kind)) ∧ Below w.heap.size w w' := by
  obtain ⟨n, hn, sm⟩ := hs.get ho
  have HS := hide (see_plain h i n hn)
  have hk : n.kind = o.kind := sm.kind
  generalize o.kind = k at hk
  have hfd := field0
  clear h hs ho hn sm
  subst hk
  unfold parentM
  by_cases h0 : n.kind = 0
  · have b0 : (n.kind == 0) = true := by simpa using h0
    go_enter Tryz.func46, Tryz.ntmps46
    set_option maxRecDepth 10000 in
    go_wp2_with (first | (go_at_call 40; refine (unhide HS).mono ?_; rintro e w5 ⟨ao, cp, rfl, hb5⟩; have HB5 := hide hb5; clear hb5))
    go_ret
    exact ⟨by simp [h0], unhide HB5⟩
  · have b0 : (n.kind == 0) = false := by simpa using h0
    by_cases h1 : n.kind = 1
    · have b1 : (n.kind == 1) = true := by simpa using h1
      go_enter Tryz.func46, Tryz.ntmps46
      set_option maxRecDepth 10000 in
      go_wp2_with (first | (go_at_call 40; refine (unhide HS).mono ?_; rintro e w5 ⟨ao, cp, rfl, hb5⟩; have HB5 := hide hb5; clear hb5))
      go_ret
      exact ⟨by simp [h1], unhide HB5⟩
    · have b1 : (n.kind == 1) = false := by simpa using h1
      by_cases h5 : n.kind = 5
      · have b5 : (n.kind == 5) = true := by simpa using h5
        go_enter Tryz.func46, Tryz.ntmps46
        set_option maxRecDepth 10000 in
        go_wp2_with (first | (go_at_call 40; refine (unhide HS).mono ?_; rintro e w5 ⟨ao, cp, rfl, hb5⟩; have HB5 := hide hb5; clear hb5))
        go_ret
        exact ⟨by simp [h5], unhide HB5⟩
      · have b5 : (n.kind == 5) = false := by simpa using h5
        go_enter Tryz.func46, Tryz.ntmps46
        set_option maxRecDepth 10000 in
        go_wp2_with (first | (go_at_call 40; refine (unhide HS).mono ?_; rintro e w5 ⟨ao, cp, rfl, hb5⟩; have HB5 := hide hb5; clear hb5))
        go_ret
        exact ⟨by simp [h0, h1, h5], unhide HB5⟩
end

theorem isCap_any (c : UInt8) (w : World) : Calls Tryz.prog 87 #[.int .u8 c.toNat] w fun e w' => e = .returned (.bool (decide (65 ≤ c.toNat) && decide (c.toNat ≤ 90))) ∧ w' = w := by
  by_cases h1 : (65 : Int) ≤ (c.toNat : Int)
  · by_cases h2 : (c.toNat : Int) ≤ 90
    · go_enter Tryz.func87, Tryz.ntmps87
      go_wp2
      go_ret
      exact ⟨by simp; omega, rfl⟩
    · go_enter Tryz.func87, Tryz.ntmps87
      go_wp2
      go_ret
      exact ⟨by simp; omega, rfl⟩
  · go_enter Tryz.func87, Tryz.ntmps87
    go_wp2
    go_ret
    exact ⟨by simp; omega, rfl⟩

def lowB (c : UInt8) : UInt8 := if 65 ≤ c.toNat ∧ c.toNat ≤ 90 then c + 32 else c
def rowB (l : List UInt8) (j k : Nat) : Option Value := (l[k]?).map fun c => Value.int .u8 ((if k < j then lowB c else c).toNat : Int)

theorem bytesRow_get (s : ByteArray) (cap k : Nat) (hk : k < s.size) : (bytesRow s cap)[k]? = (s.data.toList[k]?).map fun c => Value.int .u8 (c.toNat : Int) := by
  have hk' : k < s.data.size := hk
  unfold bytesRow
  rw [Array.getElem?_append_left (by simpa using hk')]
  simp

theorem lowB_cap (c : UInt8) (h1 : 65 ≤ c.toNat) (h2 : c.toNat ≤ 90) : ((lowB c).toNat : Int) = (c.toNat : Int) + 32 := by
  have e : lowB c = c + 32 := by unfold lowB; rw [if_pos ⟨h1, h2⟩]
  rw [e, UInt8.toNat_add]
  have : (32 : UInt8).toNat = 32 := rfl
  omega
theorem lowB_other (c : UInt8) (h : ¬ (65 ≤ c.toNat ∧ c.toNat ≤ 90)) : lowB c = c := by unfold lowB; rw [if_neg h]

structure LowAt (w wx : World) (l : List UInt8) (j : Nat) : Prop where
  cells : ∀ k c, l[k]? = some c → wx.cell? ⟨w.heap.size, k, none⟩ = some (.int .u8 ((if k < j then lowB c else c).toNat : Int))
  free : ∀ k, k < l.length → wx.frozen? ⟨w.heap.size, k, none⟩ = false
  below : Below w.heap.size w wx

theorem LowAt.same {w wx : World} {l : List UInt8} {j : Nat} (h : LowAt w wx l j) {c : UInt8} (hc : l[j]? = some c) (hl : lowB c = c) : LowAt w wx l (j + 1) :=
  ⟨fun k d hd => by
    rw [h.cells k d hd]
    by_cases e : k = j
    · subst e; rw [hc] at hd; cases hd; simp [hl]
    · by_cases e2 : k < j
      · rw [if_pos e2, if_pos (by omega)]
      · rw [if_neg e2, if_neg (by omega)], h.free, h.below⟩
theorem LowAt.put {w wx : World} {l : List UInt8} {j : Nat} (h : LowAt w wx l j) {c : UInt8} (hc : l[j]? = some c) {v : Int} (hv : v = ((lowB c).toNat : Int)) (hcell : ∃ u, wx.cell? ⟨w.heap.size, j, none⟩ = some u) : LowAt w (wx.setCell ⟨w.heap.size, j, none⟩ (.int .u8 v)) l (j + 1) := by
  subst hv
  refine ⟨fun k d hd => ?_, fun k hk => ?_, h.below.setCell (Nat.le_refl _) _⟩
  · by_cases e : k = j
    · subst e
      rw [hc] at hd; cases hd
      obtain ⟨u, hu⟩ := hcell
      rw [World.cell?_setCell_same' _ _ _ (by rw [hu]; rfl)]
      simp
    · rw [show (wx.setCell ⟨w.heap.size, j, none⟩ (.int .u8 ((lowB c).toNat : Int))).cell? ⟨w.heap.size, k, none⟩ = wx.cell? ⟨w.heap.size, k, none⟩ by apply World.cell?_setCell_other; intro e2; cases e2; exact e rfl, h.cells k d hd]
      by_cases e2 : k < j
      · rw [if_pos e2, if_pos (by omega)]
      · rw [if_neg e2, if_neg (by omega)]
  · rw [World.frozen?_setCell]; exact h.free k hk
theorem len_data (s : ByteArray) : s.data.toList.length = s.size := by show _ = s.data.size; simp

theorem low_start (w : World) (s : ByteArray) (cap : Nat) (_hcap : s.size ≤ cap) : LowAt w (w.drew.alloc (.cells (bytesRow s cap) 5 ((bytesRow s cap).size, (bytesRow s cap).size + 1))) s.data.toList 0 := by
  have hb : (w.drew.alloc (.cells (bytesRow s cap) 5 ((bytesRow s cap).size, (bytesRow s cap).size + 1))).heap[w.heap.size]? = some (.cells (bytesRow s cap) 5 ((bytesRow s cap).size, (bytesRow s cap).size + 1)) := heap_alloc_new w.drew _
  have hsz : s.size ≤ (bytesRow s cap).size := by
    have e : s.size = s.data.size := rfl
    unfold bytesRow
    rw [Array.size_append, Array.size_map]
    omega
  refine ⟨fun k c hc => ?_, fun k hk => ?_, (Below.refl _ w).drew.alloc (Nat.le_refl _) _⟩
  · have hk : k < s.size := by have := (List.getElem?_eq_some_iff.1 hc).1; rwa [len_data] at this
    rw [cell_of_row _ w.heap.size k _ _ _ hb, bytesRow_get s cap k hk, hc]
    simp
  · have hk' : k < s.size := by rwa [len_data] at hk
    unfold World.frozen?
    simp only [hb]
    simp
    omega

set_option maxHeartbeats 2000000 in
theorem small_any (s : ByteArray) (w : World) (hs : s.size ≤ 100) :
    Calls Tryz.prog 51 #[.string s] w fun e w' => e = .returned (.string ⟨(s.data.toList.map lowB).toArray⟩) ∧ Below w.heap.size w w' := by
  have hcv := fun W => run_bytes_of_string (P := Tryz.prog) W 9 129 5 s Tryz.underlying9 Tryz.underlying129 Tryz.underlying5
  have hn := len_data s
  have HN := hide hn
  clear hn
  obtain ⟨cap, hcap⟩ : ∃ cap, cap = grownCap w s.size 0 5 := ⟨_, rfl⟩
  have HLS : Hid (LowAt w (w.drew.alloc (.cells (bytesRow s cap) 5 ((bytesRow s cap).size, (bytesRow s cap).size + 1))) s.data.toList 0) := hide (low_start w s cap (by rw [hcap]; exact grownCap_ge w s.size 0 5))
  rw [hcap] at HLS
  have HBK : Hid (∀ W, LowAt w W s.data.toList s.size → (convert 129 9 (.slice (some ⟨w.heap.size, 0, none⟩) s.size cap)).run Tryz.prog W = .ok (.string ⟨(s.data.toList.map lowB).toArray⟩) W) := hide (fun W hW => by
    have := run_convert_bytes_back (P := Tryz.prog) W 129 9 5 ⟨w.heap.size, 0, none⟩ cap (s.data.toList.map lowB) Tryz.underlying129 Tryz.underlying5 Tryz.underlying9 (fun j hj => by
      have hj' : j < s.data.toList.length := by simpa using hj
      have := hW.cells j _ (List.getElem?_eq_getElem hj')
      rw [if_pos (by rw [← unhide HN]; exact hj')] at this
      have ad : (⟨w.heap.size, 0, none⟩ : Addr).add j = ⟨w.heap.size, j, none⟩ := by unfold Addr.add; split <;> simp_all
      rw [ad, this]
      simp)
    rw [List.length_map, unhide HN] at this
    exact this)
  rw [hcap] at HBK
  clear hcap
  have hsz : (s.size : Int) ≤ 100 := by omega
  go_enter Tryz.func51, Tryz.ntmps51
  go_wp2
  go_loopg [10] s.size (fun k sl wx => ∃ j : Nat, sl = .int .i64 j ∧ j + k = s.size ∧ LowAt w wx s.data.toList j)
  case atStart => exact ⟨0, rfl, by omega, unhide HLS⟩
  case round =>
    obtain ⟨j, rfl, hjk, hlo⟩ := hrel
    by_cases hj : j < s.size
    · have hjz : (j : Int) < (s.size : Int) := by omega
      have hx : s.data.toList[j]? = some s.data.toList[j] := List.getElem?_eq_getElem (by rw [unhide HN]; exact hj)
      generalize s.data.toList[j] = c at hx
      have d0 := hlo.cells j c hx
      rw [if_neg (Nat.lt_irrefl _)] at d0
      have f0 := hlo.free j (by rw [unhide HN]; exact hj)
      have HLO := hide hlo
      have HX := hide hx
      have HC := hide (isCap_any c)
      clear hlo hx
      by_cases h1 : 65 ≤ c.toNat ∧ c.toNat ≤ 90
      · have hb : (decide (65 ≤ c.toNat) && decide (c.toNat ≤ 90)) = true := by simpa using h1
        rw [hb] at HC
        obtain ⟨h2, h3⟩ := h1
        have HLC := hide (lowB_cap c h2 h3)
        have h2' : (65 : Int) ≤ (c.toNat : Int) := by omega
        have h3' : (c.toNat : Int) ≤ 90 := by omega
        clear hb
        go_wp2_with (first | (go_at_call 87; refine ((unhide HC) _).mono ?_; rintro e w' ⟨rfl, rfl⟩))
        go_roundg (gk - 1)
        case measure => omega
        case rel => exact ⟨j + 1, by go_num, by omega, (unhide HLO).put (unhide HX) (by rw [unhide HLC]; omega) ⟨_, d0⟩⟩
      · have hb : (decide (65 ≤ c.toNat) && decide (c.toNat ≤ 90)) = false := by simpa using h1
        rw [hb] at HC
        have HLC := hide (lowB_other c h1)
        clear hb h1
        go_wp2_with (first | (go_at_call 87; refine ((unhide HC) _).mono ?_; rintro e w' ⟨rfl, rfl⟩))
        go_roundg (gk - 1)
        case measure => omega
        case rel => exact ⟨j + 1, by go_num, by omega, (unhide HLO).same (unhide HX) (unhide HLC)⟩
    · have hjz : ¬ (j : Int) < (s.size : Int) := by omega
      obtain rfl : j = s.size := by omega
      have hbk := (unhide HBK) _ hlo
      have HLO := hide hlo.below
      clear hlo
      go_wp2
      go_ret
      exact ⟨rfl, unhide HLO⟩
end Go.Proofs.YtnclnijlpchdnaaGreat

namespace Go.Proofs.YtnclnijlpchdnaaGreat
open Go.RowKit

def appO (os : List OneM) (p : Nat) (q : OneM) : List OneM := linkO (os ++ [q]) p os.length (-1)
def lowS (s : ByteArray) : ByteArray := ⟨(s.data.toList.map lowB).toArray⟩

theorem Upd.next {F F1 : Nat → Prop} {w w1 w2 : World} {base bA : Nat} {ms : List NodeM} (hm : Mod F w w1) (hF : ∀ k, F1 k → F k ∨ w.heap.size ≤ k) (h : Upd F1 w1 w2 base bA ms) : Upd F w w2 base bA ms := by
  obtain ⟨F2, h1, h2, h3⟩ := h
  refine ⟨F2, h1, ⟨h2.os.trans hm.os, h2.tape.trans hm.tape, h2.output.trans hm.output, Nat.le_trans hm.size h2.size, fun k hk hf => ?_⟩, fun k hk => ?_⟩
  · rw [h2.block k (Nat.lt_of_lt_of_le hk hm.size) (fun e => (hF k e).elim hf (fun e => by omega)), hm.block k hk hf]
  · rcases h3 k hk with e | e
    · exact hF k e
    · exact .inr (Nat.le_trans hm.size e)

theorem link_new {ns : List NodeM} {os : List OneM} {q : OneM} (hs : Sim ns (os ++ [q])) {p : Nat} {op : OneM} (hop : os[p]? = some op) (hpar : parentM op.kind = true) (hk : q.kids = []) (hi : q.inner = -1) (hu : q.up = -1) (h0 : q.kind ≠ 0) (h5 : q.kind ≠ 5) :
    linkE (os ++ [q]) p os.length (-1) = 0 := by
  have hlt : p < os.length := (List.getElem?_eq_some_iff.1 hop).1
  have hop' : (os ++ [q])[p]? = some op := by rw [List.getElem?_append_left hlt]; exact hop
  have hq : (os ++ [q])[os.length]? = some q := by simp
  have hab : aboveO (os ++ [q]) p os.length = false := by
    rw [aboveO_eq]
    rw [Bool.and_eq_false_iff]
    right
    rw [decide_eq_false_iff_not]
    rintro ⟨path, hp, hx⟩
    have := hs.above_has hq hk hi hp (mem_inPath.1 hx)
    omega
  unfold linkE
  rw [hasO_of hop', hasO_of hq, kindO_of hop', kindO_of hq, upIO_of hq, hab, hpar]
  simp [h0, h5, hu]

theorem linkR_new {ns : List NodeM} {os : List OneM} {q : OneM} (hs : Sim ns (os ++ [q])) {p : Nat} {op : OneM} (hop : os[p]? = some op) (hpar : parentM op.kind = true) (hk : q.kids = []) (hi : q.inner = -1) (hu : q.up = -1) (h0 : q.kind ≠ 0) (h5 : q.kind ≠ 5) :
    linkR (os ++ [q]) p os.length (-1) = appO os p q := by
  unfold linkR
  rw [if_pos (link_new hs hop hpar hk hi hu h0 h5)]
  simp [appO]

section
variable {w W : World} {base bA : Nat} {ns : List NodeM} {os : List OneM} {q : OneM} {F : Nat → Prop}

/-- A node made and linked. -/
theorem linked (hs1 : ∃ ms F1, ArS W base bA ms F1 ∧ Mod F w W ∧ (∀ k, F1 k → F k ∨ w.heap.size ≤ k) ∧ Sim ms (os ++ [q])) {p : Nat} {op : OneM} (hop : os[p]? = some op) (hpar : parentM op.kind = true) (hk : q.kids = []) (hi : q.inner = -1) (hu : q.up = -1) (h0 : q.kind ≠ 0) (h5 : q.kind ≠ 5) :
    Calls Tryz.prog 44 #[.pointer (some ⟨bA, 0, none⟩), .int .i64 p, .int .i64 os.length, .int .i64 (-1)] W fun e w' => e = .returned (.int .i64 0) ∧ USim F w w' base bA (appO os p q) := by
  obtain ⟨ms, F1, ha, hm, hF, hs⟩ := hs1
  refine (link_sim ha hs p os.length (-1)).mono fun e w' ⟨h1, ms2, h2, h3⟩ => ?_
  rw [link_new hs hop hpar hk hi hu h0 h5] at h1
  rw [linkR_new hs hop hpar hk hi hu h0 h5] at h3
  exact ⟨h1, ms2, Upd.next hm hF h2, h3⟩

theorem elemO_new (s : ByteArray) (hs : s.size ≤ 100) (ht : isT s = false) (hroom : os.length + 1 ≤ 32768) : elemO os 0 s [] = (os ++ [elemQ 0 s []], (os.length : Int), 0) := by
  have hl : longS s = false := by unfold longS; simp; omega
  unfold elemO longE addO
  simp [hl, ht, hroom]

theorem lowS_size (s : ByteArray) : (lowS s).size = s.size := by
  show (s.data.toList.map lowB).toArray.size = s.data.size
  simp

theorem dataO_new (s : ByteArray) (hs : s.size ≤ 100) (hroom : os.length + 1 ≤ 32768) : dataO os 2 s = (os ++ [dataQ 2 s], (os.length : Int), 0) := by
  have hl : longS s = false := by unfold longS; simp; omega
  unfold dataO addO
  simp [hl, hroom]

end
end Go.Proofs.YtnclnijlpchdnaaGreat

namespace Go.Proofs.YtnclnijlpchdnaaGreat
open Go.RowKit

set_option maxHeartbeats 2000000 in
theorem refSmall_any (s : ByteArray) (w : World) (hs : s.size ≤ 100) :
    Calls Tryz.prog 76 #[.string s] w fun e w' => e = .returned (.string (lowS s)) ∧ Below w.heap.size w w' := by
  have hcv := fun W => run_bytes_of_string (P := Tryz.prog) W 9 129 5 s Tryz.underlying9 Tryz.underlying129 Tryz.underlying5
  have hn := len_data s
  have HN := hide hn
  clear hn
  obtain ⟨cap, hcap⟩ : ∃ cap, cap = grownCap w s.size 0 5 := ⟨_, rfl⟩
  have HLS : Hid (LowAt w (w.drew.alloc (.cells (bytesRow s cap) 5 ((bytesRow s cap).size, (bytesRow s cap).size + 1))) s.data.toList 0) := hide (low_start w s cap (by rw [hcap]; exact grownCap_ge w s.size 0 5))
  rw [hcap] at HLS
  have HBK : Hid (∀ W, LowAt w W s.data.toList s.size → (convert 129 9 (.slice (some ⟨w.heap.size, 0, none⟩) s.size cap)).run Tryz.prog W = .ok (.string (lowS s)) W) := hide (fun W hW => by
    have := run_convert_bytes_back (P := Tryz.prog) W 129 9 5 ⟨w.heap.size, 0, none⟩ cap (s.data.toList.map lowB) Tryz.underlying129 Tryz.underlying5 Tryz.underlying9 (fun j hj => by
      have hj' : j < s.data.toList.length := by simpa using hj
      have := hW.cells j _ (List.getElem?_eq_getElem hj')
      rw [if_pos (by rw [← unhide HN]; exact hj')] at this
      have ad : (⟨w.heap.size, 0, none⟩ : Addr).add j = ⟨w.heap.size, j, none⟩ := by unfold Addr.add; split <;> simp_all
      rw [ad, this]
      simp)
    rw [List.length_map, unhide HN] at this
    exact this)
  rw [hcap] at HBK
  clear hcap
  have hsz : (s.size : Int) ≤ 100 := by omega
  go_enter Tryz.func76, Tryz.ntmps76
  go_wp2
  go_loopg [4] s.size (fun k sl wx => ∃ j : Nat, sl = .int .i64 j ∧ j + k = s.size ∧ LowAt w wx s.data.toList j)
  case atStart => exact ⟨0, rfl, by omega, unhide HLS⟩
  case round =>
    obtain ⟨j, rfl, hjk, hlo⟩ := hrel
    by_cases hj : j < s.size
    · have hjz : (j : Int) < (s.size : Int) := by omega
      have hx : s.data.toList[j]? = some s.data.toList[j] := List.getElem?_eq_getElem (by rw [unhide HN]; exact hj)
      generalize s.data.toList[j] = c at hx
      have d0 := hlo.cells j c hx
      rw [if_neg (Nat.lt_irrefl _)] at d0
      have f0 := hlo.free j (by rw [unhide HN]; exact hj)
      have HLO := hide hlo
      have HX := hide hx
      clear hlo hx
      by_cases h2 : (65 : Int) ≤ (c.toNat : Int)
      · by_cases h3 : (c.toNat : Int) ≤ 90
        · have HLC := hide (lowB_cap c (by omega) (by omega))
          go_wp2
          go_roundg (gk - 1)
          case measure => omega
          case rel => exact ⟨j + 1, by go_num, by omega, (unhide HLO).put (unhide HX) (by rw [unhide HLC]) ⟨_, d0⟩⟩
        · have HLC := hide (lowB_other c (by omega))
          go_wp2
          go_roundg (gk - 1)
          case measure => omega
          case rel => exact ⟨j + 1, by go_num, by omega, (unhide HLO).same (unhide HX) (unhide HLC)⟩
      · have HLC := hide (lowB_other c (by omega))
        go_wp2
        go_roundg (gk - 1)
        case measure => omega
        case rel => exact ⟨j + 1, by go_num, by omega, (unhide HLO).same (unhide HX) (unhide HLC)⟩
    · have hjz : ¬ (j : Int) < (s.size : Int) := by omega
      obtain rfl : j = s.size := by omega
      have hbk := (unhide HBK) _ hlo
      have HLO := hide hlo.below
      clear hlo
      go_wp2
      go_ret
      exact ⟨rfl, unhide HLO⟩

end Go.Proofs.YtnclnijlpchdnaaGreat

namespace Go.Proofs.YtnclnijlpchdnaaGreat
open Go.RowKit

/-- How many of these nodes are of one of the kinds. -/
def cntO (os : List OneM) (ids : List Nat) (kd : List Int) : Nat := (ids.filter fun (i : Nat) => kd.contains (kindO os (i : Int))).length
def bringsO (os : List OneM) (id kd : Int) : Nat := if kindO os id = 5 then cntO os (kidsO os id) [kd] else if kindO os id = kd then 1 else 0
def aheadO (os : List OneM) (b : Int) : List Nat := (kidsO os 0).takeWhile fun (x : Nat) => (x : Int) != b
def behindO (os : List OneM) (b : Int) : List Nat := (kidsO os 0).dropWhile fun (x : Nat) => (x : Int) != b
def elemRule (os : List OneM) (b : Int) : Bool := cntO os (aheadO os b) [1] == 0 && cntO os (behindO os b) [1, 4] == 0
def docRule (os : List OneM) (b : Int) : Bool := cntO os (aheadO os b) [1, 4] == 0 && cntO os (behindO os b) [4] == 0
def fitsDoc (os : List OneM) (id b : Int) : Bool :=
  if 0 < bringsO os id 2 ∨ 1 < bringsO os id 1 then false
  else if kindO os id = 5 then (if bringsO os id 1 = 0 then true else elemRule os b)
  else if kindO os id = 1 then elemRule os b
  else if kindO os id = 4 then docRule os b else true
def fitsO (os : List OneM) (id p b : Int) : Bool := if p = 0 then fitsDoc os id b else kindO os id != 0 && kindO os id != 4
def mayE (os : List OneM) (id p b : Int) : Int :=
  if (hasO os id && hasO os p) = false then 6
  else if b ≠ -1 ∧ hasO os b = false then 6
  else if parentM (kindO os p) = false ∨ aboveO os p id = true then 20
  else if b ≠ -1 ∧ upIO os b ≠ p then 21
  else if fitsO os id p b = false then 20 else 0
def nextO (os : List OneM) (id : Int) : Int := ((os[id.toNat]?).map fun o => (nbr os id.toNat o).2).getD (-1)
def comersO (os : List OneM) (id : Int) : List Nat := if kindO os id = 5 then kidsO os id else [id.toNat]
def putO (p b : Int) (os : List OneM) (c : Nat) : List OneM := linkR (unlinkR os c) p c b
def insB (os : List OneM) (id b : Int) : Int := if b = id then nextO os id else b
def insR (os : List OneM) (id p b : Int) : List OneM := if mayE os id p b = 0 then (comersO os id).foldl (putO p (insB os id b)) os else os
def removeE (os : List OneM) (c : Int) : Int := if unlinkE os c = 5 then 21 else unlinkE os c
def addTextO (os : List OneM) (s : ByteArray) (p : Int) : List OneM × Int × Int :=
  if hasO os p = false then (os, 0, 6) else if longS s then (os, 0, 2) else if 32768 ≤ os.length then (os, 0, 9)
  else if p = 0 ∨ parentM (kindO os p) = false then (os, 0, 20) else (appO os p.toNat (dataQ 2 s), (os.length : Int), 0)
def tagM (s : ByteArray) : Bool := nameM s && (match s.data.toList with | [] => false | c :: _ => decide (97 ≤ c.toNat ∧ c.toNat ≤ 122) || decide (65 ≤ c.toNat ∧ c.toNat ≤ 90))
def addElemO (os : List OneM) (s : ByteArray) (p : Int) : List OneM × Int × Int :=
  if hasO os p = false then (os, 0, 6) else if tagM s = false then (os, 0, 22)
  else if parentM (kindO os p) = false ∨ (p = 0 ∧ 0 < cntO os (kidsO os 0) [1]) then (os, 0, 20)
  else if (elemO os 0 (lowS s) []).2.2 ≠ 0 then (os, 0, 9)
  else (linkR (elemO os 0 (lowS s) []).1 p (elemO os 0 (lowS s) []).2.1 (-1), (elemO os 0 (lowS s) []).2.1, 0)
def spaceO (os : List OneM) (k : Int) : Int := ((os[k.toNat]?).map (·.space)).getD (-1)
def attrNE (os : List OneM) (id : Int) (s : ByteArray) : Int := if hasO os id = false then 6 else if kindO os id ≠ 1 then 10 else if nameM s = false then 22 else 0
def attrN (os : List OneM) (id : Int) (s : ByteArray) : ByteArray := if spaceO os id = 0 then lowS s else s
def setX (os : List OneM) (id : Int) (s v : ByteArray) : AttrM := ⟨0, ⟨#[]⟩, attrN os id s, v⟩
def edSetE (os : List OneM) (id : Int) (s v : ByteArray) : Int := if attrNE os id s ≠ 0 then attrNE os id s else setAttrE os id (setX os id s v)
def edSetR (os : List OneM) (id : Int) (s v : ByteArray) : List OneM := if attrNE os id s ≠ 0 then os else setAttrR os id (setX os id s v)
def edDelE (os : List OneM) (id : Int) (s : ByteArray) : Int := if attrNE os id s ≠ 0 then attrNE os id s else delAttrE os id 0 (attrN os id s)
def edDelR (os : List OneM) (id : Int) (s : ByteArray) : List OneM := if attrNE os id s ≠ 0 then os else delAttrR os id 0 (attrN os id s)

theorem cntO_nil (os : List OneM) (kd : List Int) : cntO os [] kd = 0 := rfl
theorem cntO_app (os : List OneM) (l m : List Nat) (kd : List Int) : cntO os (l ++ m) kd = cntO os l kd + cntO os m kd := by simp [cntO]
theorem cntO_one (os : List OneM) (x : Nat) (kd : List Int) : cntO os [x] kd = if kd.contains (kindO os (x : Int)) then 1 else 0 := by
  unfold cntO
  rw [List.filter_cons, List.filter_nil]
  cases kd.contains (kindO os (x : Int)) <;> rfl
theorem cntO_take {os : List OneM} {l : List Nat} {j x : Nat} (h : l[j]? = some x) (kd : List Int) : cntO os (l.take (j + 1)) kd = cntO os (l.take j) kd + if kd.contains (kindO os (x : Int)) then 1 else 0 := by
  obtain ⟨hj, e⟩ := List.getElem?_eq_some_iff.1 h
  rw [List.take_succ_eq_append_getElem hj, cntO_app, e, cntO_one]
theorem cntO_le (os : List OneM) (l : List Nat) (kd : List Int) : cntO os l kd ≤ l.length := List.length_filter_le _ _

/-- Is one of these of the kind? -/
def someO (os : List OneM) (kd : Int) (l : List Nat) : Bool := l.any fun (i : Nat) => kindO os (i : Int) == kd
theorem someO_app (os : List OneM) (kd : Int) (l m : List Nat) : someO os kd (l ++ m) = (someO os kd l || someO os kd m) := by simp [someO]
theorem cnt_one0 (os : List OneM) (l : List Nat) (k : Int) : (cntO os l [k] == 0) = !someO os k l := by
  induction l with
  | nil => rfl
  | cons x l ih =>
    have e := cntO_app os [x] l [k]
    rw [List.singleton_append] at e
    rw [e, cntO_one]
    have e2 : someO os k (x :: l) = (kindO os (x : Int) == k || someO os k l) := rfl
    rw [e2]
    by_cases h : kindO os (x : Int) = k
    · simp [h]
    · have h' : (kindO os (x : Int) == k) = false := by simpa using h
      simp only [List.contains_cons, List.contains_nil, h', Bool.or_self, Bool.false_eq_true, if_false, Nat.zero_add, Bool.false_or]
      exact ih
theorem cnt_two0 (os : List OneM) (l : List Nat) (k m : Int) : (cntO os l [k, m] == 0) = (!someO os k l && !someO os m l) := by
  induction l with
  | nil => rfl
  | cons x l ih =>
    have e := cntO_app os [x] l [k, m]
    rw [List.singleton_append] at e
    rw [e, cntO_one]
    have e2 : ∀ k, someO os k (x :: l) = (kindO os (x : Int) == k || someO os k l) := fun _ => rfl
    rw [e2, e2]
    by_cases h : kindO os (x : Int) = k
    · simp [h]
    · have h' : (kindO os (x : Int) == k) = false := by simpa using h
      by_cases h2 : kindO os (x : Int) = m
      · simp [h2]
      · have h2' : (kindO os (x : Int) == m) = false := by simpa using h2
        simp only [List.contains_cons, List.contains_nil, h', h2', Bool.or_self, Bool.false_eq_true, if_false, Nat.zero_add, Bool.false_or]
        exact ih
theorem ahead_behind (os : List OneM) (b : Int) : aheadO os b ++ behindO os b = kidsO os 0 := List.takeWhile_append_dropWhile

/-- May an element be put into the document there, as the document says it? -/
def elemM (os : List OneM) (b : Int) : Bool := !someO os 1 (kidsO os 0) && !someO os 4 (behindO os b)
def doctM (os : List OneM) (b : Int) : Bool := !someO os 4 (kidsO os 0) && !someO os 1 (aheadO os b)
def documentM (os : List OneM) (id b : Int) : Bool :=
  if kindO os id = 5 then (if someO os 2 (kidsO os id) then false else cntO os (kidsO os id) [1] == 0 || (cntO os (kidsO os id) [1] == 1 && elemM os b))
  else if kindO os id = 1 then elemM os b
  else if kindO os id = 4 then doctM os b else true
theorem elemRule_eq (os : List OneM) (b : Int) : elemRule os b = elemM os b := by
  unfold elemRule elemM
  rw [cnt_one0, cnt_two0, ← ahead_behind os b, someO_app]
  cases someO os 1 (aheadO os b) <;> cases someO os 1 (behindO os b) <;> cases someO os 4 (behindO os b) <;> rfl
theorem docRule_eq (os : List OneM) (b : Int) : docRule os b = doctM os b := by
  unfold docRule doctM
  rw [cnt_one0, cnt_two0, ← ahead_behind os b, someO_app]
  cases someO os 4 (aheadO os b) <;> cases someO os 4 (behindO os b) <;> cases someO os 1 (aheadO os b) <;> rfl
theorem fitsDoc_eq (os : List OneM) (id b : Int) : fitsDoc os id b = (kindO os id != 2 && documentM os id b) := by
  unfold fitsDoc documentM bringsO
  rw [elemRule_eq, docRule_eq]
  by_cases h5 : kindO os id = 5
  · simp only [h5, if_true]
    have e2 := cnt_one0 os (kidsO os id) 2
    cases hs : someO os 2 (kidsO os id)
    · rw [hs] at e2
      have e2' : cntO os (kidsO os id) [2] = 0 := by simpa using e2
      rw [e2']
      generalize cntO os (kidsO os id) [1] = m
      generalize elemM os b = q
      match m with
      | 0 => simp
      | 1 => cases q <;> simp
      | m + 2 => simp
    · rw [hs] at e2
      have e2' : cntO os (kidsO os id) [2] ≠ 0 := by simpa using e2
      rw [if_pos (.inl (by omega))]
      simp
  · simp only [h5, if_false]
    by_cases h2 : kindO os id = 2
    · simp [h2]
    · by_cases h1 : kindO os id = 1
      · simp [h1]
      · by_cases h4 : kindO os id = 4
        · simp [h4]
        · simp [h2, h1, h4]
end Go.Proofs.YtnclnijlpchdnaaGreat

namespace Go.Proofs.YtnclnijlpchdnaaGreat
open Go.RowKit

section
variable {w W W' : World} {base bA : Nat} {ns : List NodeM} {os : List OneM} {F : Nat → Prop}

theorem usim_of (h : ArS w base bA ns F) (hs : Sim ns os) (hb : Below w.heap.size w W) : USim F w W base bA os := ⟨ns, ⟨F, h.below hb, Mod.of_below hb, fun _ hk => .inl hk⟩, hs⟩
theorem USim.below (h : USim F w W base bA os) (hb : Below W.heap.size W W') : USim F w W' base bA os := by
  obtain ⟨ms, ⟨F1, ha, hm, hF⟩, hs⟩ := h
  exact ⟨ms, ⟨F1, ha.below hb, hm.trans (Mod.of_below hb), hF⟩, hs⟩
theorem USim.after (hb : Below w.heap.size w W) (h : USim F W W' base bA os) : USim F w W' base bA os := by
  obtain ⟨ms, ⟨F1, ha, hm, hF⟩, hs⟩ := h
  exact ⟨ms, ⟨F1, ha, (Mod.of_below hb).trans hm, fun k hk => (hF k hk).imp id (fun e => Nat.le_trans hb.size e)⟩, hs⟩
theorem USim.unlink (h : USim F w W base bA os) (c : Int) :
    Calls Tryz.prog 43 #[.pointer (some ⟨bA, 0, none⟩), .int .i64 c] W fun e w' => e = .returned (.int .i64 (unlinkE os c)) ∧ USim F w w' base bA (unlinkR os c) := by
  obtain ⟨ms, ⟨F1, ha, hm, hF⟩, hs⟩ := h
  exact (unlink_sim ha hs c).mono fun e w' ⟨h1, ms2, h2, h3⟩ => ⟨h1, ms2, Upd.next hm hF h2, h3⟩
theorem USim.link (h : USim F w W base bA os) (p c b : Int) :
    Calls Tryz.prog 44 #[.pointer (some ⟨bA, 0, none⟩), .int .i64 p, .int .i64 c, .int .i64 b] W fun e w' => e = .returned (.int .i64 (linkE os p c b)) ∧ USim F w w' base bA (linkR os p c b) := by
  obtain ⟨ms, ⟨F1, ha, hm, hF⟩, hs⟩ := h
  exact (link_sim ha hs p c b).mono fun e w' ⟨h1, ms2, h2, h3⟩ => ⟨h1, ms2, Upd.next hm hF h2, h3⟩
theorem USim.mod (h : USim F w W base bA os) : Mod F w W := by
  obtain ⟨ms, ⟨F1, ha, hm, hF⟩, hs⟩ := h
  exact hm

end
end Go.Proofs.YtnclnijlpchdnaaGreat

namespace Go.Proofs.YtnclnijlpchdnaaGreat
open Go.RowKit

section
variable {w : World} {base bA : Nat} {ns : List NodeM} {os : List OneM} {F : Nat → Prop}

theorem hasE (h : ArS w base bA ns F) (hs : Sim ns os) (k : Int) :
    Calls Tryz.prog 64 #[.pointer (some ⟨bA, 0, none⟩), .int .i64 k] w fun e w' => e = .returned (.bool (hasO os k)) ∧ w' = w := by
  have HL := hide (lenO h hs)
  clear h hs
  unfold hasO
  by_cases h0 : (0 : Int) ≤ k
  · by_cases h1 : k < (os.length : Int)
    · rw [decide_eq_true (show 0 ≤ k ∧ k < (os.length : Int) from ⟨h0, h1⟩)]
      go_enter Tryz.func64, Tryz.ntmps64
      go_wp2_with (first | (go_at_call 34; refine (unhide HL).mono ?_; rintro e w' ⟨rfl, rfl⟩))
      go_ret
      exact ⟨rfl, rfl⟩
    · rw [decide_eq_false (show ¬ (0 ≤ k ∧ k < (os.length : Int)) from fun e => h1 e.2)]
      go_enter Tryz.func64, Tryz.ntmps64
      go_wp2_with (first | (go_at_call 34; refine (unhide HL).mono ?_; rintro e w' ⟨rfl, rfl⟩))
      go_ret
      exact ⟨by simp [h1], rfl⟩
  · rw [decide_eq_false (show ¬ (0 ≤ k ∧ k < (os.length : Int)) from fun e => h0 e.1)]
    go_enter Tryz.func64, Tryz.ntmps64
    go_wp2
    go_ret
    exact ⟨rfl, rfl⟩

theorem len_pos (h : ArS w base bA ns F) (hs : Sim ns os) : ((os.length : Int) == 0) = false ∧ ¬ (os.length : Int) = 0 ∧ os.length ≤ 32768 := by
  obtain ⟨bS, g, cap, h, _⟩ := h
  have := h.pos
  have h2 := h.most
  rw [hs.len] at this h2
  have h0 : ¬ (os.length : Int) = 0 := by omega
  exact ⟨by simpa using h0, h0, h2⟩

set_option maxHeartbeats 1000000 in
theorem find1 (h : ArS w base bA ns F) (hs : Sim ns os) (k : Int) (b c : Nat) (hc : w.cell? ⟨b, 0, none⟩ = some (.int .i64 k)) :
    Calls Tryz.prog 45 #[.pointer (some ⟨bA, 0, none⟩), .slice (some ⟨b, 0, none⟩) 1 c] w fun e w' => e = .returned (.int .i64 (if hasO os k = false then 6 else 0)) ∧ w' = w := by
  have HL := hide (lenO h hs)
  have HH := hide (hasE h hs k)
  obtain ⟨h1, h0, _⟩ := len_pos h hs
  clear h hs
  cases hv : hasO os k
  all_goals rw [hv] at HH
  · go_enter Tryz.func45, Tryz.ntmps45
    go_wp2_with (first | (go_at_call 34; refine (unhide HL).mono ?_; rintro e w' ⟨rfl, rfl⟩))
    go_loop [12] (fun s => s = .int .i64 0) (fun _ => 0)
    case atStart => rfl
    case round =>
      subst hrel
      go_wp2_with (first | (go_at_call 64; refine (unhide HH).mono ?_; rintro e w' ⟨rfl, rfl⟩))
      go_ret
      exact ⟨rfl, rfl⟩
  · go_enter Tryz.func45, Tryz.ntmps45
    go_wp2_with (first | (go_at_call 34; refine (unhide HL).mono ?_; rintro e w' ⟨rfl, rfl⟩))
    go_loop [12] (fun s => s = .int .i64 0 ∨ s = .int .i64 1) (fun s => (1 - intOf s).toNat)
    case atStart => exact .inl rfl
    case round =>
      rcases hrel with rfl | rfl
      · go_wp2_with (first | (go_at_call 64; refine (unhide HH).mono ?_; rintro e w' ⟨rfl, rfl⟩))
        go_round
        case rel => exact .inr rfl
        case measure => simp [intOf]
      · go_wp2
        go_ret
        exact ⟨rfl, rfl⟩

set_option maxHeartbeats 1000000 in
theorem find2 (h : ArS w base bA ns F) (hs : Sim ns os) (k m : Int) (b c : Nat) (hc : w.cell? ⟨b, 0, none⟩ = some (.int .i64 k)) (hd : w.cell? ⟨b, 1, none⟩ = some (.int .i64 m)) :
    Calls Tryz.prog 45 #[.pointer (some ⟨bA, 0, none⟩), .slice (some ⟨b, 0, none⟩) 2 c] w fun e w' => e = .returned (.int .i64 (if (hasO os k && hasO os m) = false then 6 else 0)) ∧ w' = w := by
  have HL := hide (lenO h hs)
  have HH := hide (hasE h hs k)
  have HM := hide (hasE h hs m)
  obtain ⟨h1, h0, _⟩ := len_pos h hs
  clear h hs
  cases hv : hasO os k
  all_goals rw [hv] at HH
  · go_enter Tryz.func45, Tryz.ntmps45
    go_wp2_with (first | (go_at_call 34; refine (unhide HL).mono ?_; rintro e w' ⟨rfl, rfl⟩))
    go_loop [12] (fun s => s = .int .i64 0) (fun _ => 0)
    case atStart => rfl
    case round =>
      subst hrel
      go_wp2_with (first | (go_at_call 64; refine (unhide HH).mono ?_; rintro e w' ⟨rfl, rfl⟩))
      go_ret
      exact ⟨rfl, rfl⟩
  · cases hu : hasO os m
    all_goals rw [hu] at HM
    · go_enter Tryz.func45, Tryz.ntmps45
      go_wp2_with (first | (go_at_call 34; refine (unhide HL).mono ?_; rintro e w' ⟨rfl, rfl⟩))
      go_loop [12] (fun s => s = .int .i64 0 ∨ s = .int .i64 1) (fun s => (1 - intOf s).toNat)
      case atStart => exact .inl rfl
      case round =>
        rcases hrel with rfl | rfl
        · go_wp2_with (first | (go_at_call 64; refine (unhide HH).mono ?_; rintro e w' ⟨rfl, rfl⟩))
          go_round
          case rel => exact .inr rfl
          case measure => simp [intOf]
        · go_wp2_with (first | (go_at_call 64; refine (unhide HM).mono ?_; rintro e w' ⟨rfl, rfl⟩))
          go_ret
          exact ⟨rfl, rfl⟩
    · go_enter Tryz.func45, Tryz.ntmps45
      go_wp2_with (first | (go_at_call 34; refine (unhide HL).mono ?_; rintro e w' ⟨rfl, rfl⟩))
      go_loop [12] (fun s => s = .int .i64 0 ∨ s = .int .i64 1 ∨ s = .int .i64 2) (fun s => (2 - intOf s).toNat)
      case atStart => exact .inl rfl
      case round =>
        rcases hrel with rfl | rfl | rfl
        · go_wp2_with (first | (go_at_call 64; refine (unhide HH).mono ?_; rintro e w' ⟨rfl, rfl⟩))
          go_round
          case rel => exact .inr (.inl rfl)
          case measure => simp [intOf]
        · go_wp2_with (first | (go_at_call 64; refine (unhide HM).mono ?_; rintro e w' ⟨rfl, rfl⟩))
          go_round
          case rel => exact .inr (.inr rfl)
          case measure => simp [intOf]
        · go_wp2
          go_ret
          exact ⟨rfl, rfl⟩
end

/-- Numbers that lie one behind the other. -/
structure IntsZ (w : World) (a : Option Addr) (l : List Int) : Prop where
  cells : ∀ (i : Nat) x, l[i]? = some x → ∃ b off, a = some ⟨b, off, none⟩ ∧ w.cell? ⟨b, off + i, none⟩ = some (.int .i64 x)
theorem IntsIn.z {w : World} {a : Option Addr} {l : List Nat} (h : IntsIn w a l) : IntsZ w a (l.map fun (x : Nat) => (x : Int)) := ⟨fun i x hi => by
  rw [List.getElem?_map] at hi
  cases hl : l[i]? with
  | none => rw [hl] at hi; simp at hi
  | some y =>
    rw [hl] at hi; simp at hi; subst hi
    exact h.cells i y hl⟩
theorem IntsZ.below {w w' : World} {a : Option Addr} {l : List Int} (h : IntsZ w a l) (hb : Below w.heap.size w w') : IntsZ w' a l := ⟨fun i x hi => by
  obtain ⟨b, off, e, hc⟩ := h.cells i x hi
  have hlt : b < w.heap.size := by
    cases hh : w.heap[b]? with
    | none => simp [World.cell?, hh] at hc
    | some o => exact lt_of_block hh
  exact ⟨b, off, e, by rw [hb.cell hlt]; exact hc⟩⟩
theorem intsZ_one (w : World) (e : TypeId) (x : Int) : IntsZ (w.alloc (.cells #[.int .i64 x] e)) (some ⟨w.heap.size, 0, none⟩) [x] := ⟨fun i y hi => by
  match i, hi with
  | 0, hi => simp at hi; subst hi; exact ⟨_, _, rfl, by simp⟩
  | i + 1, hi => simp at hi⟩
theorem intsZ_two (w : World) (e : TypeId) (x y : Int) : IntsZ (w.alloc (.cells #[.int .i64 x, .int .i64 y] e)) (some ⟨w.heap.size, 0, none⟩) [x, y] := ⟨fun i z hi => by
  match i, hi with
  | 0, hi => simp at hi; subst hi; exact ⟨_, _, rfl, by simp⟩
  | 1, hi => simp at hi; subst hi; exact ⟨_, _, rfl, by simp⟩
  | i + 2, hi => simp at hi⟩

def idxZ (l : List Int) (v : Int) : Int := match l.findIdx? (· == v) with | some i => (i : Int) | none => -1
theorem idxZ_at {l : List Int} {j : Nat} {v : Int} (hj : l[j]? = some v) (hn : ∀ i x, i < j → l[i]? = some x → x ≠ v) : idxZ l v = j := by
  have : l.findIdx? (· == v) = some j := by
    rw [List.findIdx?_eq_some_iff_getElem]
    obtain ⟨h, e⟩ := List.getElem?_eq_some_iff.1 hj
    refine ⟨h, by simp [e], fun i hi => ?_⟩
    have := hn i _ hi (List.getElem?_eq_getElem (by omega))
    simpa using this
  unfold idxZ; rw [this]
theorem idxZ_no {l : List Int} {v : Int} (hn : ∀ (i : Nat) x, l[i]? = some x → x ≠ v) : idxZ l v = -1 := by
  have : l.findIdx? (· == v) = none := by
    rw [List.findIdx?_eq_none_iff]
    intro x hx
    obtain ⟨i, hi⟩ := List.mem_iff_getElem?.1 hx
    simpa using hn i x hi
  unfold idxZ; rw [this]
theorem idxZ_has (l : List Int) (v : Int) : decide (0 ≤ idxZ l v) = l.contains v := by
  unfold idxZ
  cases h : l.findIdx? (· == v) with
  | none =>
    rw [List.findIdx?_eq_none_iff] at h
    have : l.contains v = false := by
      rw [List.contains_eq_any_beq]
      rw [List.any_eq_false]
      intro x hx
      have := h x hx
      simp at this ⊢
      exact fun e => this e.symm
    rw [this]; rfl
  | some i =>
    obtain ⟨hi, hx, _⟩ := List.findIdx?_eq_some_iff_getElem.1 h
    have : l.contains v = true := by
      simp at hx
      rw [List.contains_iff_mem]
      rw [← hx]
      exact List.getElem_mem hi
    rw [this]
    exact decide_eq_true (by show (0 : Int) ≤ (i : Int); omega)

set_option maxHeartbeats 1000000 in
theorem index_any (w : World) (a : Option Addr) (c : Nat) (l : List Int) (h : IntsZ w a l) (hl : l.length ≤ 32768) (v : Int) :
    Calls Tryz.prog 106 #[.slice a l.length c, .int .i64 v] w fun e w' => e = .returned (.int .i64 (idxZ l v)) ∧ w' = w := by
  have HA := hide h
  clear h
  go_enter Tryz.func106, Tryz.ntmps106
  go_wp2
  go_loopg [8] l.length (fun k s wx => ∃ j : Nat, s = .int .i64 j ∧ j + k = l.length ∧ (∀ i x, i < j → l[i]? = some x → x ≠ v) ∧ wx = w)
  case atStart => exact ⟨0, rfl, by omega, fun i x hi => absurd hi (by omega), rfl⟩
  case round =>
    obtain ⟨j, rfl, hjk, hno, rfl⟩ := hrel
    have HNO := hide hno
    clear hno
    by_cases hj : j < l.length
    · have hjz : (j : Int) < (l.length : Int) := by omega
      have hx : l[j]? = some l[j] := List.getElem?_eq_getElem hj
      generalize l[j] = x at hx
      obtain ⟨b, off, rfl, hc⟩ := (unhide HA).cells j x hx
      have HX := hide hx
      clear hx
      by_cases e : v = x
      · have he : (v == x) = true := by simpa using e
        go_wp2
        go_ret
        refine ⟨?_, rfl⟩
        rw [idxZ_at (v := v) (j := j) (by rw [unhide HX, e]) (unhide HNO)]
        rfl
      · have he : (v == x) = false := by simpa using e
        go_wp2
        go_roundg (gk - 1)
        case measure => omega
        case rel =>
          refine ⟨j + 1, by go_num, by omega, fun i y hi hy => ?_, rfl⟩
          by_cases e2 : i = j
          · subst e2; rw [unhide HX] at hy; cases hy; exact fun e3 => e e3.symm
          · exact (unhide HNO) i y (by omega) hy
    · have hjz : ¬ (j : Int) < (l.length : Int) := by omega
      go_wp2
      go_ret
      refine ⟨?_, rfl⟩
      rw [idxZ_no (fun i x hx => (unhide HNO) i x (by have := (List.getElem?_eq_some_iff.1 hx).1; omega) hx)]
      rfl

theorem contains_any (w : World) (a : Option Addr) (c : Nat) (l : List Int) (h : IntsZ w a l) (hl : l.length ≤ 32768) (v : Int) :
    Calls Tryz.prog 88 #[.slice a l.length c, .int .i64 v] w fun e w' => e = .returned (.bool (l.contains v)) ∧ w' = w := by
  have HI := hide (index_any w a c l h hl v)
  rw [← idxZ_has]
  generalize idxZ l v = z at HI ⊢
  clear h hl
  by_cases h0 : 0 ≤ z
  · rw [decide_eq_true h0]
    go_enter Tryz.func88, Tryz.ntmps88
    go_wp2_with (first | (go_at_call 106; refine (unhide HI).mono ?_; rintro e w' ⟨rfl, rfl⟩))
    go_ret
    exact ⟨rfl, rfl⟩
  · rw [decide_eq_false h0]
    go_enter Tryz.func88, Tryz.ntmps88
    go_wp2_with (first | (go_at_call 106; refine (unhide HI).mono ?_; rintro e w' ⟨rfl, rfl⟩))
    go_ret
    exact ⟨by simp [h0], rfl⟩
end Go.Proofs.YtnclnijlpchdnaaGreat

namespace Go.Proofs.YtnclnijlpchdnaaGreat
open Go.RowKit

section
variable {w : World} {base bA : Nat} {ns : List NodeM} {os : List OneM} {F : Nat → Prop}

theorem see_kind (h : ArS w base bA ns F) (hs : Sim ns os) (i : Nat) (hi : i < os.length) :
    Calls Tryz.prog 40 #[.pointer (some ⟨bA, 0, none⟩), .int .i64 i] w fun e w' => ∃ v1 v6 v7 v8 v9 v10 v11 v2 v4 v5 ao q cp, e = .returned (.agg #[.int .i64 (kindO os i), .int .i64 v1, .string v2, .slice ao q cp, .string v4, .string v5, .int .i64 v6, .int .i64 v7, .int .i64 v8, .int .i64 v9, .int .i64 v10, .int .i64 v11]) ∧
      v6 = upIO os i ∧ v10 = nextO os i ∧ v1 = spaceO os i ∧ Below w.heap.size w w' := by
  obtain ⟨o, ho⟩ : ∃ o, os[i]? = some o := ⟨_, List.getElem?_eq_getElem hi⟩
  obtain ⟨n, hn, sm⟩ := hs.get ho
  have ht := hs.tell hn ho
  refine (see_plain h i n hn).mono fun e w' ⟨ao, cp, he, hb⟩ => ?_
  refine ⟨_, _, _, _, _, _, _, _, _, _, _, _, _, by rw [he, show n.kind = kindO os i by rw [kindO_of ho, ht]; rfl], ?_, ?_, ?_, hb⟩
  · rw [upIO_of ho, ht]; rfl
  · rw [ht]; simp [nextO, ho, tellN]
  · rw [ht]; simp [spaceO, ho, tellN]

set_option maxHeartbeats 2000000 in
theorem count_any (h : ArS w base bA ns F) (hs : Sim ns os) (a : Option Addr) (c : Nat) (ids : List Nat) (hi : IntsIn w a ids) (hin : ∀ x ∈ ids, x < os.length) (hl : ids.length ≤ 32768) (b : Option Addr) (d : Nat) (kd : List Int) (hk : IntsZ w b kd) (hkl : kd.length ≤ 1000) :
    Calls Tryz.prog 49 #[.pointer (some ⟨bA, 0, none⟩), .slice a ids.length c, .slice b kd.length d] w fun e w' => e = .returned (.int .i64 (cntO os ids kd)) ∧ Below w.heap.size w w' := by
  have HSEE : Hid (∀ W, Below w.heap.size w W → ∀ x, x < os.length → Calls Tryz.prog 40 #[.pointer (some ⟨bA, 0, none⟩), .int .i64 x] W fun e w' => ∃ v1 v6 v7 v8 v9 v10 v11 v2 v4 v5 ao q cp, e = .returned (.agg #[.int .i64 (kindO os x), .int .i64 v1, .string v2, .slice ao q cp, .string v4, .string v5, .int .i64 v6, .int .i64 v7, .int .i64 v8, .int .i64 v9, .int .i64 v10, .int .i64 v11]) ∧ Below W.heap.size W w') :=
    hide (fun W hb x hx => (see_kind (h.below hb) hs x hx).mono fun e w' ⟨v1, v6, v7, v8, v9, v10, v11, v2, v4, v5, ao, q, cp, h1, _, _, _, h2⟩ => ⟨v1, v6, v7, v8, v9, v10, v11, v2, v4, v5, ao, q, cp, h1, h2⟩)
  have HCON : Hid (∀ W, Below w.heap.size w W → ∀ v, Calls Tryz.prog 88 #[.slice b kd.length d, .int .i64 v] W fun e w' => e = .returned (.bool (kd.contains v)) ∧ w' = W) :=
    hide (fun W hb v => contains_any W b d kd (hk.below hb) (by omega) v)
  have HI : Hid (∀ W, Below w.heap.size w W → IntsIn W a ids) := hide (fun W hb => hi.below hb)
  have HIN := hide hin
  have hfd := field0
  clear h hs hi hin hk
  go_enter Tryz.func49, Tryz.ntmps49
  go_wp2
  go_loopg [7, 12] ids.length (fun k s t wx => ∃ j : Nat, s = .int .i64 (cntO os (ids.take j) kd) ∧ t = .int .i64 j ∧ j + k = ids.length ∧ Below w.heap.size w wx)
  case atStart => exact ⟨0, by simp [cntO], rfl, by omega, Below.refl _ _⟩
  case round =>
    obtain ⟨j, rfl, rfl, hjk, hb⟩ := hrel
    by_cases hj : j < ids.length
    · have hjz : (j : Int) < (ids.length : Int) := by omega
      have hx : ids[j]? = some ids[j] := List.getElem?_eq_getElem hj
      generalize ids[j] = x at hx
      have hxo := (unhide HIN) x (List.mem_of_getElem? hx)
      obtain ⟨ba, off, rfl, hc⟩ := ((unhide HI) _ hb).cells j x hx
      have hle := cntO_le os (ids.take j) kd
      have hlt := List.length_take_le j ids
      have HT := hide (cntO_take (os := os) hx kd)
      have HS1 := hide ((unhide HSEE) _ hb x hxo)
      have HBW := hide hb
      clear hx hb hxo
      generalize cntO os (ids.take j) kd = m at hle HT ⊢
      have hm1 : (m : Int) ≤ 32768 := by omega
      generalize kindO os (x : Int) = kx at HT HS1
      cases hv : kd.contains kx
      all_goals rw [hv] at HT
      · go_wp2_with (first
          | (go_at_call 40; refine (unhide HS1).mono ?_; rintro e w3 ⟨v1, v6, v7, v8, v9, v10, v11, v2, v4, v5, ao, q, cp, rfl, hb3⟩; have HB3 := hide ((unhide HBW).trans (hb3.mono (unhide HBW).size)); clear hb3)
          | (go_at_call 88; refine ((unhide HCON) _ (unhide HB3) _).mono ?_; rw [hv]; rintro e w4 ⟨rfl, rfl⟩))
        go_roundg (gk - 1)
        case measure => omega
        case rel => exact ⟨j + 1, by rw [unhide HT]; simp, by go_num, by omega, unhide HB3⟩
      · go_wp2_with (first
          | (go_at_call 40; refine (unhide HS1).mono ?_; rintro e w3 ⟨v1, v6, v7, v8, v9, v10, v11, v2, v4, v5, ao, q, cp, rfl, hb3⟩; have HB3 := hide ((unhide HBW).trans (hb3.mono (unhide HBW).size)); clear hb3)
          | (go_at_call 88; refine ((unhide HCON) _ (unhide HB3) _).mono ?_; rw [hv]; rintro e w4 ⟨rfl, rfl⟩))
        go_roundg (gk - 1)
        case measure => omega
        case rel => exact ⟨j + 1, by rw [unhide HT]; go_num, by go_num, by omega, unhide HB3⟩
    · have hjz : ¬ (j : Int) < (ids.length : Int) := by omega
      obtain rfl : j = ids.length := by omega
      go_wp2
      go_ret
      exact ⟨by simp, hb⟩
end

/-- A guest: a node by itself, or a fragment with its children. -/
def singleV (id kd : Int) : Value := .iface 120 (.agg #[.int .i64 id, .int .i64 kd])
def bundleV (bA : Nat) (kv : Value) : Value := .iface 118 (.agg #[.pointer (some ⟨bA, 0, none⟩), kv])

theorem sKind (id kd : Int) (w : World) : Calls Tryz.prog 143 #[.agg #[.int .i64 id, .int .i64 kd]] w fun e w' => e = .returned (.int .i64 kd) ∧ Below w.heap.size w w' := by
  go_enter Tryz.func143, Tryz.ntmps143
  go_wp2
  go_ret
  exact ⟨rfl, (Below.refl _ _).alloc (Nat.le_refl _) _⟩
theorem bKind (p q : Value) (w : World) : Calls Tryz.prog 141 #[.agg #[p, q]] w fun e w' => e = .returned (.int .i64 5) ∧ Below w.heap.size w w' := by
  go_enter Tryz.func141, Tryz.ntmps141
  go_wp2
  go_ret
  exact ⟨rfl, (Below.refl _ _).alloc (Nat.le_refl _) _⟩
theorem sBrings (id kd k : Int) (w : World) : Calls Tryz.prog 142 #[.agg #[.int .i64 id, .int .i64 kd], .int .i64 k] w fun e w' => e = .returned (.int .i64 (if kd = k then 1 else 0)) ∧ Below w.heap.size w w' := by
  by_cases h : kd = k
  · have hb : (kd == k) = true := by simpa using h
    rw [if_pos h]
    clear h
    go_enter Tryz.func142, Tryz.ntmps142
    go_wp2
    go_ret
    exact ⟨rfl, (Below.refl _ _).alloc (Nat.le_refl _) _⟩
  · have hb : (kd == k) = false := by simpa using h
    rw [if_neg h]
    go_enter Tryz.func142, Tryz.ntmps142
    go_wp2
    go_ret
    exact ⟨rfl, (Below.refl _ _).alloc (Nat.le_refl _) _⟩

section
variable {w : World} {base bA : Nat} {ns : List NodeM} {os : List OneM} {F : Nat → Prop}
theorem count1 (h : ArS w base bA ns F) (hs : Sim ns os) (a : Option Addr) (c : Nat) (ids : List Nat) (hi : IntsIn w a ids) (hin : ∀ x ∈ ids, x < os.length) (hl : ids.length ≤ 32768) (k : Int) :
    Calls Tryz.prog 49 #[.pointer (some ⟨bA, 0, none⟩), .slice a ids.length c, .slice (some ⟨w.heap.size, 0, none⟩) 1 1] (w.alloc (.cells #[.int .i64 k] 3)) fun e w' => e = .returned (.int .i64 (cntO os ids [k])) ∧ Below w.heap.size w w' := by
  have hb : Below w.heap.size w (w.alloc (.cells #[.int .i64 k] 3)) := (Below.refl _ w).alloc (Nat.le_refl _) _
  exact (count_any (h.below hb) hs a c ids (hi.below hb) hin hl _ 1 [k] (intsZ_one w 3 k) (by simp)).mono fun e w' ⟨h1, h2⟩ => ⟨h1, hb.trans (h2.mono hb.size)⟩
theorem count2 (h : ArS w base bA ns F) (hs : Sim ns os) (a : Option Addr) (c : Nat) (ids : List Nat) (hi : IntsIn w a ids) (hin : ∀ x ∈ ids, x < os.length) (hl : ids.length ≤ 32768) (k m : Int) :
    Calls Tryz.prog 49 #[.pointer (some ⟨bA, 0, none⟩), .slice a ids.length c, .slice (some ⟨w.heap.size, 0, none⟩) 2 2] (w.alloc (.cells #[.int .i64 k, .int .i64 m] 3)) fun e w' => e = .returned (.int .i64 (cntO os ids [k, m])) ∧ Below w.heap.size w w' := by
  have hb : Below w.heap.size w (w.alloc (.cells #[.int .i64 k, .int .i64 m] 3)) := (Below.refl _ w).alloc (Nat.le_refl _) _
  exact (count_any (h.below hb) hs a c ids (hi.below hb) hin hl _ 2 [k, m] (intsZ_two w 3 k m) (by simp)).mono fun e w' ⟨h1, h2⟩ => ⟨h1, hb.trans (h2.mono hb.size)⟩

set_option maxHeartbeats 1000000 in
theorem bBrings (h : ArS w base bA ns F) (hs : Sim ns os) (a : Option Addr) (c : Nat) (ids : List Nat) (hi : IntsIn w a ids) (hin : ∀ x ∈ ids, x < os.length) (hl : ids.length ≤ 32768) (k : Int) :
    Calls Tryz.prog 140 #[.agg #[.pointer (some ⟨bA, 0, none⟩), .slice a ids.length c], .int .i64 k] w fun e w' => e = .returned (.int .i64 (cntO os ids [k])) ∧ Below w.heap.size w w' := by
  have hb0 : ∀ ob, Below w.heap.size w (w.alloc ob) := fun ob => (Below.refl _ w).alloc (Nat.le_refl _) ob
  have HC : Hid (∀ ob, Calls Tryz.prog 49 #[.pointer (some ⟨bA, 0, none⟩), .slice a ids.length c, .slice (some ⟨w.heap.size + 1, 0, none⟩) 1 1] ((w.alloc ob).alloc (.cells #[.int .i64 k] 3)) fun e w' => e = .returned (.int .i64 (cntO os ids [k])) ∧ Below w.heap.size w w') :=
    hide (fun ob => by rw [← show (w.alloc ob).heap.size = w.heap.size + 1 by simp]; exact (count1 (h.below (hb0 ob)) hs a c ids (hi.below (hb0 ob)) hin hl k).mono fun e w' ⟨h1, h2⟩ => ⟨h1, (hb0 ob).trans (h2.mono (hb0 ob).size)⟩)
  generalize cntO os ids [k] = m at HC ⊢
  clear h hs hi hin hb0
  go_enter Tryz.func140, Tryz.ntmps140
  go_wp2_with (first | (go_at_call 49; refine ((unhide HC) _).mono ?_; rintro e w3 ⟨rfl, hb3⟩; have HB3 := hide hb3; clear hb3))
  go_ret
  exact ⟨rfl, unhide HB3⟩

/-- What a guest is; its list lies in memory newer than B. -/
structure Guest (B : Nat) (w : World) (bA : Nat) (os : List OneM) (id : Int) (g : Value) : Prop where
  one : kindO os id ≠ 5 → g = singleV id (kindO os id)
  all : kindO os id = 5 → ∃ a c, g = bundleV bA (.slice a (kidsO os id).length c) ∧ IntsIn w a (kidsO os id) ∧ ∀ b off, a = some ⟨b, off, none⟩ → B ≤ b ∧ b < w.heap.size
theorem Guest.below {B : Nat} {w w' : World} {id : Int} {g : Value} (h : Guest B w bA os id g) (hb : Below w.heap.size w w') : Guest B w' bA os id g :=
  ⟨h.one, fun e => by obtain ⟨a, c, h1, h2, h3⟩ := h.all e; exact ⟨a, c, h1, h2.below hb, fun b off e => ⟨(h3 b off e).1, Nat.lt_of_lt_of_le (h3 b off e).2 hb.size⟩⟩⟩

set_option maxHeartbeats 1000000 in
theorem guestOf_any (h : ArS w base bA ns F) (hs : Sim ns os) (i : Nat) (hi : i < os.length) :
    Calls Tryz.prog 42 #[.pointer (some ⟨bA, 0, none⟩), .int .i64 i] w fun e w' => ∃ g, e = .returned g ∧ Guest w.heap.size w' bA os i g ∧ Below w.heap.size w w' := by
  have HS := hide (see_kind h hs i hi)
  have hfd := field0
  by_cases h5 : kindO os i = 5
  · have HK : Hid (∀ W, Below w.heap.size w W → Calls Tryz.prog 11 #[.pointer (some ⟨bA, 0, none⟩), .int .i64 i] W fun e w' => ∃ a c, e = .returned (.slice a (kidsO os i).length c) ∧ IntsIn w' a (kidsO os i) ∧ (∀ b off, a = some ⟨b, off, none⟩ → w.heap.size ≤ b ∧ b < w'.heap.size) ∧ Below W.heap.size W w') := hide (fun W hb => by
      refine (kids_sim (h.below hb) hs i).mono fun e w' ⟨v, h1, h2, h3⟩ => ?_
      obtain ⟨a, c, rfl, h4, _⟩ := ownsRow_ints h2
      refine ⟨a, c, h1, h4, fun b off e => ?_, h3⟩
      have := ownsRow_base h2 (k := b) (by rw [e]; rfl)
      exact ⟨Nat.le_trans hb.size this.1, this.2⟩)
    have hE : (kindO os i == 5) = true := by simpa using h5
    have HG : Hid (∀ w' a c, IntsIn w' a (kidsO os i) → (∀ b off, a = some ⟨b, off, none⟩ → w.heap.size ≤ b ∧ b < w'.heap.size) → Guest w.heap.size w' bA os i (bundleV bA (.slice a (kidsO os i).length c))) := hide (fun w' a c h h' => ⟨fun e => absurd h5 e, fun _ => ⟨a, c, rfl, h, h'⟩⟩)
    unfold bundleV at HG
    clear h hs
    generalize kindO os i = kd at HS hE h5
    subst h5
    go_enter Tryz.func42, Tryz.ntmps42
    go_wp2_with (first
      | (go_at_call 40; refine (unhide HS).mono ?_; rintro e w3 ⟨v1, v6, v7, v8, v9, v10, v11, v2, v4, v5, ao, q, cp, rfl, _, _, _, hb3⟩; have HB3 := hide hb3; clear hb3)
      | (go_at_call 11; refine ((unhide HK) _ (unhide HB3)).mono ?_; rintro e w4 ⟨ka, kc, rfl, hk4, hn4, hb4⟩; have HB4 := hide ((unhide HB3).trans (hb4.mono (unhide HB3).size)); have HK4 := hide hk4; have HN4 := hide hn4; clear hb4 hk4 hn4))
    go_ret
    exact ⟨_, rfl, (unhide HG) _ _ _ (unhide HK4) (unhide HN4), unhide HB4⟩
  · have hE : (kindO os i == 5) = false := by simpa using h5
    have HG : Hid (∀ w', Guest w.heap.size w' bA os i (singleV i (kindO os i))) := hide (fun w' => ⟨fun _ => rfl, fun e => absurd e h5⟩)
    unfold singleV at HG
    clear h hs
    generalize kindO os i = kd at HS hE h5 HG
    go_enter Tryz.func42, Tryz.ntmps42
    go_wp2_with (first
      | (go_at_call 40; refine (unhide HS).mono ?_; rintro e w3 ⟨v1, v6, v7, v8, v9, v10, v11, v2, v4, v5, ao, q, cp, rfl, _, _, _, hb3⟩; have HB3 := hide hb3; clear hb3))
    go_ret
    exact ⟨_, rfl, (unhide HG) _, unhide HB3⟩
end
end Go.Proofs.YtnclnijlpchdnaaGreat

namespace Go.Proofs.YtnclnijlpchdnaaGreat
open Go.RowKit

theorem below_dn {B : Nat} {a w : World} (h : Below B a w) (n : Nat) : Below B a (w.drewN n) := ⟨h.os, h.tape, h.output, h.size, h.block⟩
theorem idxZ_cons (x : Int) (l : List Int) (v : Int) : idxZ (x :: l) v = if x = v then 0 else if idxZ l v = -1 then -1 else idxZ l v + 1 := by
  unfold idxZ
  rw [List.findIdx?_cons]
  by_cases h : x = v
  · simp [h]
  · have hb : (x == v) = false := by simpa using h
    rw [hb, if_neg h]
    cases hl : l.findIdx? (· == v) with
    | none => simp
    | some i =>
      simp only [Bool.false_eq_true, if_false, Option.map_some]
      rw [if_neg (by omega)]
      omega
theorem cut_at (l : List Nat) (b : Int) : ∃ at' : Nat, at' ≤ l.length ∧ (l.takeWhile fun (x : Nat) => (x : Int) != b) = l.take at' ∧ (l.dropWhile fun (x : Nat) => (x : Int) != b) = l.drop at' ∧
    (idxZ (l.map fun (x : Nat) => (x : Int)) b = at' ∨ (idxZ (l.map fun (x : Nat) => (x : Int)) b = -1 ∧ at' = l.length)) := by
  induction l with
  | nil => exact ⟨0, by simp, rfl, rfl, .inr ⟨rfl, rfl⟩⟩
  | cons x l ih =>
    obtain ⟨k, h1, h2, h3, h4⟩ := ih
    rw [List.map_cons, idxZ_cons]
    by_cases e : (x : Int) = b
    · refine ⟨0, by omega, by simp [e], by simp [e], .inl (by rw [if_pos e]; rfl)⟩
    · have hb : ((x : Int) != b) = true := by simpa using e
      refine ⟨k + 1, by simp; omega, by rw [List.takeWhile_cons, hb]; simp [h2], by rw [List.dropWhile_cons, hb]; simp [h3], ?_⟩
      rw [if_neg e]
      rcases h4 with h | ⟨h, h'⟩
      · rw [if_neg (by omega)]; exact .inl (by omega)
      · rw [if_pos h]; exact .inr ⟨rfl, by simp [h']⟩
theorem IntsIn.take {w : World} {a : Option Addr} {l : List Nat} (h : IntsIn w a l) (j : Nat) : IntsIn w a (l.take j) := ⟨fun i x hi => h.cells i x (by rw [List.getElem?_take] at hi; split at hi; exact hi; cases hi)⟩
theorem IntsIn.drop {w : World} {b off : Nat} {l : List Nat} (h : IntsIn w (some ⟨b, off, none⟩) l) (j : Nat) : IntsIn w (some ⟨b, off + j, none⟩) (l.drop j) := ⟨fun i x hi => by
  rw [List.getElem?_drop] at hi
  obtain ⟨b', off', e, hc⟩ := h.cells (j + i) x hi
  simp at e
  obtain ⟨rfl, rfl⟩ := e
  exact ⟨b, off + j, rfl, by rw [Nat.add_assoc]; exact hc⟩⟩
theorem IntsIn.drop0 {w : World} {b : Nat} {l : List Nat} (h : IntsIn w (some ⟨b, 0, none⟩) l) (j : Nat) : IntsIn w (some ⟨b, j, none⟩) (l.drop j) := by
  have hd := h.drop j
  rw [Nat.zero_add] at hd
  exact hd
theorem intsIn_nil (w : World) (a : Option Addr) : IntsIn w a [] := ⟨fun i x hi => by simp at hi⟩

section
variable {w : World} {base bA : Nat} {ns : List NodeM} {os : List OneM} {F : Nat → Prop}

theorem kids_lt (hs : Sim ns os) (k : Int) : ∀ x ∈ kidsO os k, x < os.length := by
  intro x hx
  unfold kidsO at hx
  split at hx
  · rename_i hh
    obtain ⟨i, o, rfl, ho⟩ := hasO_yes hh
    simp [ho] at hx
    obtain ⟨oc, hoc, _⟩ := hs.down i o x ho hx
    exact (List.getElem?_eq_some_iff.1 hoc).1
  · simp at hx
theorem kids_few (h : ArS w base bA ns F) (hs : Sim ns os) (k : Int) : (kidsO os k).length ≤ 32768 := by
  have hm := (len_pos h hs).2.2
  unfold kidsO
  split
  · rename_i hh
    obtain ⟨i, o, rfl, ho⟩ := hasO_yes hh
    simp [ho]
    have hK := hs.kids i o ho
    have := List.Nodup.length_le_of_subset hK.nodup (l₂ := List.range os.length) (fun x hx => by
      obtain ⟨oc, hoc, _⟩ := hs.down i o x ho hx
      exact List.mem_range.2 (List.getElem?_eq_some_iff.1 hoc).1)
    simp at this
    omega
  · simp

set_option maxHeartbeats 2000000 in
theorem around_any (h : ArS w base bA ns F) (hs : Sim ns os) (b : Int) :
    Calls Tryz.prog 112 #[.pointer (some ⟨bA, 0, none⟩), .int .i64 b] w fun e w' => ∃ a1 c1 a2 c2, e = .returned (.tuple #[.slice a1 (aheadO os b).length c1, .slice a2 (behindO os b).length c2]) ∧
      IntsIn w' a1 (aheadO os b) ∧ IntsIn w' a2 (behindO os b) ∧ Below w.heap.size w w' := by
  have HK := hide (kids_sim h hs 0)
  have hfew := kids_few h hs 0
  obtain ⟨k, hk1, hk2, hk3, hk4⟩ := cut_at (kidsO os 0) b
  have e1 : aheadO os b = (kidsO os 0).take k := hk2
  have e2 : behindO os b = (kidsO os 0).drop k := hk3
  rw [e1, e2]
  have l1 : ((kidsO os 0).take k).length = k := by simp; omega
  have l2 : ((kidsO os 0).drop k).length = (kidsO os 0).length - k := by simp
  rw [l1, l2]
  clear h hs e1 e2 hk2 hk3 l1 l2
  generalize kidsO os 0 = ks at *
  have hkz : (k : Int) ≤ (ks.length : Int) := by omega
  have hk0 : ¬ (k : Int) < 0 := by omega
  go_enter Tryz.func112, Tryz.ntmps112
  go_wp2_with fail
  refine (unhide HK).mono ?_
  rintro e w3 ⟨v, rfl, hown, hb3⟩
  have hlm : (ks.map fun (x : Nat) => (x : Int)).length = ks.length := by simp
  rcases hown.2 with ⟨rfl, h0⟩ | ⟨g, cap, cur, rfl, _, hg, hnc, _⟩
  · obtain rfl : ks = [] := List.length_eq_zero_iff.1 h0
    have HI := hide (index_any w3 none 0 [] ⟨fun i x hi => by simp at hi⟩ (by simp) b)
    have hz : idxZ [] b = -1 := rfl
    rw [hz] at HI
    obtain rfl : k = 0 := by simpa using hk1
    have HB3 := hide hb3
    clear hk4 hb3 hown
    go_wp2_with (first | (go_at_call 106; refine (unhide HI).mono ?_; rintro e w4 ⟨rfl, rfl⟩))
    go_quiet (fail)
    go_wp2
    go_ret2
    exact ⟨_, _, _, _, rfl, intsIn_nil _ _, intsIn_nil _ _, below_dn (unhide HB3) _⟩
  · obtain ⟨a, c, hv, hin, _⟩ := ownsRow_ints hown
    simp at hv
    obtain ⟨rfl, rfl⟩ := hv
    have HI := hide (index_any w3 (some ⟨g, 0, none⟩) cap _ hin.z (by rw [hlm]; exact hfew) b)
    rw [hlm] at HI
    have hcz : (ks.length : Int) ≤ (cap : Int) := by omega
    have hkc : (k : Int) ≤ (cap : Int) := by omega
    have HB3 := hide hb3
    have HIN := hide hin
    clear hb3 hin hown hlm
    rcases hk4 with hz | ⟨hz, hz2⟩
    · rw [hz] at HI
      go_wp2_with (first | (go_at_call 106; refine (unhide HI).mono ?_; rintro e w4 ⟨rfl, rfl⟩))
      go_quiet (fail)
      all_goals go_wp2
      all_goals go_ret2
      all_goals refine ⟨_, _, _, ⟨_, rfl⟩, ((unhide HIN).below (below_dn (Below.refl _ _) _)).take k, ?_, below_dn (unhide HB3) _⟩
      all_goals first | (rw [List.drop_eq_nil_of_le (by omega)]; exact intsIn_nil _ _) | exact ((unhide HIN).below (below_dn (Below.refl _ _) _)).drop0 _
    · rw [hz] at HI
      subst hz2
      go_wp2_with (first | (go_at_call 106; refine (unhide HI).mono ?_; rintro e w4 ⟨rfl, rfl⟩))
      go_quiet (fail)
      all_goals go_wp2
      all_goals go_ret2
      all_goals first
        | exact ⟨_, _, _, ⟨_, rfl⟩, (unhide HIN).below (below_dn (Below.refl _ _) _), intsIn_nil _ _, below_dn (unhide HB3) _⟩
        | (refine ⟨_, _, _, ⟨_, rfl⟩, (unhide HIN).below (below_dn (Below.refl _ _) _), ?_, below_dn (unhide HB3) _⟩; rw [List.drop_eq_nil_of_le (by omega)]; exact intsIn_nil _ _)
end
end Go.Proofs.YtnclnijlpchdnaaGreat

namespace Go.Proofs.YtnclnijlpchdnaaGreat
open Go.RowKit

section
variable {w : World} {base bA : Nat} {ns : List NodeM} {os : List OneM} {F : Nat → Prop}

theorem ahead_in (hs : Sim ns os) (b : Int) : ∀ x ∈ aheadO os b, x < os.length := fun x hx => kids_lt hs 0 x (by rw [← ahead_behind os b]; exact List.mem_append_left _ hx)
theorem behind_in (hs : Sim ns os) (b : Int) : ∀ x ∈ behindO os b, x < os.length := fun x hx => kids_lt hs 0 x (by rw [← ahead_behind os b]; exact List.mem_append_right _ hx)
theorem parts_few (h : ArS w base bA ns F) (hs : Sim ns os) (b : Int) : (aheadO os b).length ≤ 32768 ∧ (behindO os b).length ≤ 32768 := by
  have := kids_few h hs 0
  rw [← ahead_behind os b] at this
  simp at this
  omega

/-- What fitsDocument asks of the document's children. -/
structure Asks (w : World) (bA : Nat) (os : List OneM) (b : Int) : Prop where
  around : ∀ W, Below w.heap.size w W → Calls Tryz.prog 112 #[.pointer (some ⟨bA, 0, none⟩), .int .i64 b] W fun e w' => ∃ a1 c1 a2 c2, e = .returned (.tuple #[.slice a1 (aheadO os b).length c1, .slice a2 (behindO os b).length c2]) ∧
      IntsIn w' a1 (aheadO os b) ∧ IntsIn w' a2 (behindO os b) ∧ Below w.heap.size w w'
  a1 : ∀ W a c k, Below w.heap.size w W → IntsIn W a (aheadO os b) → Calls Tryz.prog 49 #[.pointer (some ⟨bA, 0, none⟩), .slice a (aheadO os b).length c, .slice (some ⟨W.heap.size, 0, none⟩) 1 1] (W.alloc (.cells #[.int .i64 k] 3)) fun e w' => e = .returned (.int .i64 (cntO os (aheadO os b) [k])) ∧ Below W.heap.size W w'
  a2 : ∀ W a c k m, Below w.heap.size w W → IntsIn W a (aheadO os b) → Calls Tryz.prog 49 #[.pointer (some ⟨bA, 0, none⟩), .slice a (aheadO os b).length c, .slice (some ⟨W.heap.size, 0, none⟩) 2 2] (W.alloc (.cells #[.int .i64 k, .int .i64 m] 3)) fun e w' => e = .returned (.int .i64 (cntO os (aheadO os b) [k, m])) ∧ Below W.heap.size W w'
  b1 : ∀ W a c k, Below w.heap.size w W → IntsIn W a (behindO os b) → Calls Tryz.prog 49 #[.pointer (some ⟨bA, 0, none⟩), .slice a (behindO os b).length c, .slice (some ⟨W.heap.size, 0, none⟩) 1 1] (W.alloc (.cells #[.int .i64 k] 3)) fun e w' => e = .returned (.int .i64 (cntO os (behindO os b) [k])) ∧ Below W.heap.size W w'
  b2 : ∀ W a c k m, Below w.heap.size w W → IntsIn W a (behindO os b) → Calls Tryz.prog 49 #[.pointer (some ⟨bA, 0, none⟩), .slice a (behindO os b).length c, .slice (some ⟨W.heap.size, 0, none⟩) 2 2] (W.alloc (.cells #[.int .i64 k, .int .i64 m] 3)) fun e w' => e = .returned (.int .i64 (cntO os (behindO os b) [k, m])) ∧ Below W.heap.size W w'
theorem asks (h : ArS w base bA ns F) (hs : Sim ns os) (b : Int) : Asks w bA os b := by
  obtain ⟨l1, l2⟩ := parts_few h hs b
  refine ⟨fun W hW => ?_, fun W a c k hW hi => ?_, fun W a c k m hW hi => ?_, fun W a c k hW hi => ?_, fun W a c k m hW hi => ?_⟩
  · exact (around_any (h.below hW) hs b).mono fun e w' ⟨a1, c1, a2, c2, h1, h2, h3, h4⟩ => ⟨a1, c1, a2, c2, h1, h2, h3, hW.trans (h4.mono hW.size)⟩
  · exact count1 (h.below hW) hs a c _ hi (ahead_in hs b) l1 k
  · exact count2 (h.below hW) hs a c _ hi (ahead_in hs b) l1 k m
  · exact count1 (h.below hW) hs a c _ hi (behind_in hs b) l2 k
  · exact count2 (h.below hW) hs a c _ hi (behind_in hs b) l2 k m
end

end Go.Proofs.YtnclnijlpchdnaaGreat
