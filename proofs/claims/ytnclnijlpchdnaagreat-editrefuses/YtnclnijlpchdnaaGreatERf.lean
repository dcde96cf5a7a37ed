/-
  Proved: a change that is refused leaves all as it was: EditRefuses returns true for every script and every last call, and changes nothing. Conditions: none beyond the given row's own.
-/
import Derived.Test.YtnclnijlpchdnaaGreatE7
import Derived.Deep.LoopGhost
import Derived.Deep.QuietTactic
import Derived.BigQuiet
import Derived.Deep.RegionWith
import Derived.Test.YtnclnijlpchdnaaGreatRfB
import Derived.Deep.AppendLies
import Derived.Deep.AppendSrc
import Derived.Deep.Upon
namespace Go.Proofs.YtnclnijlpchdnaaGreat
open Go.RowKit

/-- What both tell of a node. -/
def toldV (t : NodeM) (a : Option Addr) (c : Nat) : Value := .agg #[.int .i64 t.kind, .int .i64 t.space, .string t.name, .slice a t.attrs.length c, .string t.data, .string t.system, .int .i64 t.parent, .int .i64 t.first, .int .i64 t.last, .int .i64 t.prev, .int .i64 t.next, .int .i64 t.inner]

structure TellQ (w : World) (bA bR : Nat) (os : List OneM) (g cap : Nat) : Prop where
  prog : ∀ W (i : Nat) o, Below w.heap.size w W → os[i]? = some o → Calls Tryz.prog 12 #[.pointer (some ⟨bA, 0, none⟩), .int .i64 i] W fun e w' => ∃ a c, e = .returned (.tuple #[toldV (tellN os i o) a c, .int .i64 0]) ∧ AttrsIn w' a o.attrs ∧ Below W.heap.size W w'
  ref : ∀ W (i : Nat) o, Below w.heap.size w W → os[i]? = some o → Calls Tryz.prog 33 #[.pointer (some ⟨bR, 0, none⟩), .int .i64 i] W fun e w' => ∃ a c, e = .returned (.tuple #[toldV (tellN os i o) a c, .int .i64 0]) ∧ AttrsIn w' a o.attrs ∧ Below W.heap.size W w'
  len : ∀ W, Below w.heap.size w W → Calls Tryz.prog 34 #[.pointer (some ⟨bA, 0, none⟩)] W fun e w' => e = .returned (.int .i64 os.length) ∧ W = w'
  row : ∀ W, Below w.heap.size w W → W.cell? ⟨bR, 0, none⟩ = some (.slice (some ⟨g, 0, none⟩) os.length cap)
  few : ∀ (i : Nat) o, os[i]? = some o → o.attrs.length ≤ 1024
  most : os.length ≤ 32768

theorem tellQ {w0 w : World} {bA bR : Nat} {os : List OneM} (h : Both w0 w bA bR os) : ∃ g cap, TellQ w bA bR os g cap := by
  obtain ⟨ns, F, G, hp⟩ := h
  obtain ⟨g, cap, hN⟩ := nodesAt hp.rf
  refine ⟨g, cap, fun W i o hW ho => ?_, fun W i o hW ho => ?_, fun W hW => lenO (hp.more hW).ar hp.sim, fun W hW => (hN W hW).row, fun i o ho => ?_, (hN w (Below.refl _ _)).most⟩
  · obtain ⟨n, hn, sm⟩ := hp.sim.get ho
    have ht := hp.sim.tell hn ho
    refine (node_in (hp.more hW).ar i n hn).mono fun e w' ⟨ao, cp, h1, h2, h3, _⟩ => ?_
    obtain ⟨a', c', e1, hin⟩ := ownsRow_attrs h2
    simp at e1
    obtain ⟨rfl, rfl⟩ := e1
    have ha : n.attrs = o.attrs := by rw [ht]; rfl
    refine ⟨ao, cp, ?_, ha ▸ hin, h3⟩
    rw [h1, ht]
    rfl
  · obtain ⟨g', cap', rs, h, rfl, _⟩ := (hp.more hW).rf
    obtain ⟨r, hr, rfl⟩ := osOf_back ho
    refine (refNode_in h hp.sim i r hr).mono fun e w' ⟨na, nc, h1, h2, h3⟩ => ?_
    exact ⟨na, nc, h1, h2, h3⟩
  · obtain ⟨n, hn, sm⟩ := hp.sim.get ho
    have ht := hp.sim.tell hn ho
    obtain ⟨bS, g, cap, h, _⟩ := hp.ar
    have := h.few i n hn
    rw [ht] at this
    exact this

section
variable {w : World} {bA bR g cap : Nat} {os : List OneM}
set_option maxRecDepth 100000 in
set_option maxHeartbeats 8000000 in
theorem same2_any (hQ : TellQ w bA bR os g cap) :
    Calls Tryz.prog 10 #[.pointer (some ⟨bA, 0, none⟩), .pointer (some ⟨bR, 0, none⟩)] w fun e w' => e = .returned (.bool true) ∧ Below w.heap.size w w' := by
  have HQ := hide hQ
  have hmost := hQ.most
  obtain ⟨n, hn⟩ : ∃ n, os.length = n := ⟨_, rfl⟩
  rw [hn] at hmost
  have HN := hide hn
  clear hQ hn
  go_enter Tryz.func10, Tryz.ntmps10
  go_wp2
  go_loopg [5] n (fun k s wx => ∃ j : Nat, s = .int .i64 j ∧ j + k = n ∧ Below w.heap.size w wx)
  case atStart => exact ⟨0, rfl, by omega, Below.refl _ _⟩
  case round =>
    obtain ⟨j, rfl, hjk, hb⟩ := hrel
    have r0 := (unhide HQ).row _ hb
    rw [unhide HN] at r0
    have HB := hide hb
    clear hb
    by_cases hj : j < n
    · have hjz : (j : Int) < (n : Int) := by omega
      obtain ⟨o, ho⟩ : ∃ o, os[j]? = some o := ⟨_, List.getElem?_eq_getElem (by rw [unhide HN]; exact hj)⟩
      have HO := hide ho
      have HF := hide ((unhide HQ).few j o ho)
      clear ho
      obtain ⟨t, ht⟩ : ∃ t, tellN os j o = t := ⟨_, rfl⟩
      have HT := hide ht
      have hat : o.attrs = t.attrs := by rw [← ht]; rfl
      have HAT := hide hat
      clear ht hat
      go_wp2_with (first
        | (go_at_call 12; refine ((unhide HQ).prog _ j o (unhide HB) (unhide HO)).mono ?_; rw [unhide HT]; rintro e w1 ⟨ax, cx, rfl, hax, hb1⟩; have HB1 := hide ((unhide HB).trans (hb1.mono (unhide HB).size)); have HAX := hide hax; clear hax hb1; unfold toldV))
      have hb1' := (unhide HB1).alloc (unhide HB1).size (.cells #[.int .i64 t.kind, .int .i64 t.space, .string t.name, .slice ax t.attrs.length cx, .string t.data, .string t.system, .int .i64 t.parent, .int .i64 t.first, .int .i64 t.last, .int .i64 t.prev, .int .i64 t.next, .int .i64 t.inner] 36)
      refine ((unhide HQ).ref _ j o hb1' (unhide HO)).mono ?_
      rw [unhide HT]
      rintro e w2 ⟨ay, cy, rfl, hay, hb2⟩
      have x0 := (bcell hb2).1 w1.heap.size 0 (by simp)
      have x2 := (bcell hb2).1 w1.heap.size 2 (by simp)
      have x3 := (bcell hb2).1 w1.heap.size 3 (by simp)
      have x4 := (bcell hb2).1 w1.heap.size 4 (by simp)
      have x6 := (bcell hb2).1 w1.heap.size 6 (by simp)
      have x7 := (bcell hb2).1 w1.heap.size 7 (by simp)
      have x10 := (bcell hb2).1 w1.heap.size 10 (by simp)
      simp at x0 x2 x3 x4 x6 x7 x10
      have hl12 : w1.heap.size < w2.heap.size := Nat.lt_of_lt_of_le (by simp) hb2.size
      have hlne : ¬ w1.heap.size = w2.heap.size := by omega
      have HB2 := hide (hb1'.trans (hb2.mono hb1'.size))
      have HAX2 : Hid (AttrsIn w2 ax t.attrs) := hide (by rw [← unhide HAT]; exact ((unhide HAX).below ((Below.refl _ _).alloc (Nat.le_refl _) _)).below hb2)
      have HAY : Hid (AttrsIn w2 ay t.attrs) := hide (by rw [← unhide HAT]; exact hay)
      have HF2 : Hid (t.attrs.length ≤ 1024) := hide (by rw [← unhide HAT]; exact unhide HF)
      clear hb1' hb2 hay
      unfold toldV
      go_wp2
      obtain ⟨gk0, hgk0⟩ : ∃ x, x = gk := ⟨_, rfl⟩
      have HGK := hide hgk0
      have HJK := hide hjk
      clear hgk0 hjk
      go_loopg [10] t.attrs.length (fun k s wx => ∃ m : Nat, s = .int .i64 m ∧ m + k = t.attrs.length ∧ Below w.heap.size w wx ∧ wx.cell? ⟨w1.heap.size, 3, none⟩ = some (.slice ax t.attrs.length cx) ∧ wx.cell? ⟨w2.heap.size, 3, none⟩ = some (.slice ay t.attrs.length cy) ∧ AttrsIn wx ax t.attrs ∧ AttrsIn wx ay t.attrs)
      case atStart => exact ⟨0, rfl, by omega, (unhide HB2).alloc (unhide HB2).size _, by first | (rw [((Below.refl _ w2).alloc (Nat.le_refl _) _).cell hl12]; exact x3) | exact x3 | simp, by simp, (unhide HAX2).below ((Below.refl _ _).alloc (Nat.le_refl _) _), (unhide HAY).below ((Below.refl _ _).alloc (Nat.le_refl _) _)⟩
      case round =>
        obtain ⟨m, rfl, hmk, hbw, k1, k2, hax, hay⟩ := hrel
        have hfew := unhide HF2
        have HBW := hide hbw
        have HAXW := hide hax
        have HAYW := hide hay
        by_cases hm : m < t.attrs.length
        · have hx : t.attrs[m]? = some t.attrs[m] := List.getElem?_eq_getElem hm
          have hmz : (m : Int) < (t.attrs.length : Int) := by omega
          obtain ⟨ba, oa, rfl, a0, a1, a2, a3⟩ := hax.cells m _ hx
          obtain ⟨bb, ob, rfl, b0, b1, b2, b3⟩ := hay.cells m _ hx
          generalize t.attrs[m] = x at a0 a1 a2 a3 b0 b1 b2 b3 hx
          clear hx hbw hax hay
          go_wp2
          go_quiet (fail)
          go_wp2
          go_roundg (gk - 1)
          case measure => omega
          case rel => exact ⟨m + 1, by go_num, by omega, below_dn (unhide HBW) _, by simpa using k1, by simpa using k2, (unhide HAXW).below (below_dn (Below.refl _ _) _), (unhide HAYW).below (below_dn (Below.refl _ _) _)⟩
        · have hmz : ¬ (m : Int) < (t.attrs.length : Int) := by omega
          clear hbw hax hay
          go_wp2
          go_roundg (gk0 - 1)
          case measure => have := unhide HGK; have := unhide HJK; omega
          case rel => exact ⟨j + 1, by go_num, by have := unhide HGK; have := unhide HJK; omega, unhide HBW⟩
    · have hjz : ¬ (j : Int) < (n : Int) := by omega
      have HL := hide ((unhide HQ).len _ (unhide HB).drew)
      rw [unhide HN] at HL
      have hnn : ((n : Int) == (n : Int)) = true := by simp
      go_wp2_with fail
      go_region_with (go_at_call 34; refine (unhide HL).mono ?_; rintro e w3 ⟨rfl, rfl⟩)
      all_goals go_wp2
      all_goals go_ret
      all_goals first | exact ⟨rfl, (unhide HB).drew⟩ | exact ⟨by simp, (unhide HB).drew⟩ | exact ⟨rfl, unhide HB⟩
end
end Go.Proofs.YtnclnijlpchdnaaGreat

namespace Go.Proofs.YtnclnijlpchdnaaGreat
open Go.RowKit

theorem k0_new : K0 [oneM 0] := by
  intro i hi
  match i, hi with
  | 0, _ => rfl
  | i + 1, hi => simp [kindO] at hi

theorem awake2_any (w : World) : Calls Tryz.prog 13 #[] w fun e w' => e = .returned (.bool true) ∧ Below w.heap.size w w' := by
  have h1 : ∀ W, Calls Tryz.prog 39 #[.string ⟨#[105, 100]⟩] W fun e w' => e = .returned (.bool true) ∧ Below W.heap.size W w' := fun W => by
    have := name_any ⟨#[105, 100]⟩ W (by decide)
    rw [show nameM ⟨#[105, 100]⟩ = true by decide +kernel] at this
    exact this
  have h2 : ∀ W, Calls Tryz.prog 39 #[.string ⟨#[]⟩] W fun e w' => e = .returned (.bool false) ∧ Below W.heap.size W w' := fun W => by
    have := name_any ⟨#[]⟩ W (by decide)
    rw [show nameM ⟨#[]⟩ = false by decide +kernel] at this
    exact this
  have H1 := hide h1
  have H2 := hide h2
  clear h1 h2
  go_enter Tryz.func13, Tryz.ntmps13
  go_wp2_with (first
    | (have _x := unhide HB1; go_at_call 39; refine ((unhide H2) _).mono ?_; rintro e w2 ⟨rfl, hb⟩; have HB2 := hide ((unhide HB1).trans (hb.mono (unhide HB1).size)); clear hb)
    | (go_at_call 39; refine ((unhide H1) _).mono ?_; rintro e w1 ⟨rfl, hb⟩; have HB1 := hide hb; clear hb))
  go_ret
  exact ⟨rfl, unhide HB2⟩

/-- What Node tells, of every number. -/
theorem nodeP {w0 w : World} {bA bR : Nat} {os osR : List OneM} {ns : List NodeM} {F G : Nat → Prop} (hp : Pair w0 w bA bR os osR ns F G) (k : Int) :
    Calls Tryz.prog 12 #[.pointer (some ⟨bA, 0, none⟩), .int .i64 k] w fun e w' => ∃ v0 v1 v6 v7 v8 v9 v10 v11 v2 v4 v5 ao q cp f, e = .returned (.tuple #[.agg #[.int .i64 v0, .int .i64 v1, .string v2, .slice ao q cp, .string v4, .string v5, .int .i64 v6, .int .i64 v7, .int .i64 v8, .int .i64 v9, .int .i64 v10, .int .i64 v11], .int .i64 f]) ∧
      (∀ (i : Nat) o, k = i → os[i]? = some o → f = 0 ∧ v0 = o.kind ∧ v6 = o.up ∧ v10 = (nbr os i o).2) ∧ Below w.heap.size w w' := by
  cases hh : hasO os k with
  | false =>
    refine (node_no hp.ar k (by rw [hp.sim.hasM]; exact hh)).mono fun e w' ⟨h1, h2⟩ => ⟨_, _, _, _, _, _, _, _, _, _, _, _, _, _, _, h1, fun i o e ho => ?_, h2⟩
    subst e
    rw [hasO_of ho] at hh
    cases hh
  | true =>
    obtain ⟨i, o, rfl, ho⟩ := hasO_yes hh
    obtain ⟨n, hn, sm⟩ := hp.sim.get ho
    have ht := hp.sim.tell hn ho
    refine (node_in hp.ar i n hn).mono fun e w' ⟨ao, cp, h1, _, h3, _⟩ => ⟨_, _, _, _, _, _, _, _, _, _, _, _, _, _, _, h1, fun i' o' e ho' => ?_, h3⟩
    obtain rfl : i = i' := by omega
    rw [ho] at ho'; cases ho'
    rw [ht]
    exact ⟨rfl, rfl, rfl, rfl⟩

end Go.Proofs.YtnclnijlpchdnaaGreat

namespace Go.Proofs.YtnclnijlpchdnaaGreat
open Go.RowKit

/-- A copy under way. -/
structure CpS (w wx : World) (v : Value) (rs : List OneR) : Prop where
  cell : wx.heap[w.heap.size]? = some (.cells #[v] 60 (0, 0))
  own : wx.ownsRow w.heap.size 57 10 v rs.length (oneRow rs)
  attrs : ∀ (i : Nat) r, rs[i]? = some r → ∃ a cp, r.av = .slice a r.o.attrs.length cp ∧ AttrsIn wx a r.o.attrs ∧ r.o.attrs.length ≤ 1024 ∧ r.o.attrs.length ≤ cp
  kids : ∀ (i : Nat) r, rs[i]? = some r → ∃ a cp, r.kv = .slice a r.o.kids.length cp ∧ IntsIn wx a r.o.kids ∧ r.o.kids.length ≤ 32768
  held : ∀ (i : Nat) r, rs[i]? = some r → ∀ k, (blk r.av = some k ∨ blk r.kv = some k) → w.heap.size < k ∧ k < wx.heap.size ∧ v.ownBlock ≠ some k
  below : Below w.heap.size w wx

theorem CpS.ownLt {w wx : World} {v : Value} {rs : List OneR} (h : CpS w wx v rs) {k : Nat} (e : v.ownBlock = some k) : k < wx.heap.size := by
  obtain ⟨cur, hc⟩ := ownsRow_block h.own e
  exact lt_of_block hc
theorem CpS.ownNe {w wx : World} {v : Value} {rs : List OneR} (h : CpS w wx v rs) : v.ownBlock ≠ some w.heap.size := fun e => by
  obtain ⟨cur, hc⟩ := ownsRow_block h.own e
  rw [h.cell] at hc
  simp at hc
theorem CpS.more {w wx w' : World} {v : Value} {rs : List OneR} (h : CpS w wx v rs) (hb : Below wx.heap.size wx w') : CpS w w' v rs := by
  have hlt := lt_of_block h.cell
  refine ⟨(hb.block _ hlt).trans h.cell, ownsRow_kept h.own (fun k e => hb.block k (h.ownLt e)), fun i r hi => ?_, fun i r hi => ?_, fun i r hi k e => ?_, h.below.trans (hb.mono h.below.size)⟩
  · obtain ⟨a, cp, e, ha, hl⟩ := h.attrs i r hi
    exact ⟨a, cp, e, ha.below hb, hl⟩
  · obtain ⟨a, cp, e, ha, hl⟩ := h.kids i r hi
    exact ⟨a, cp, e, ha.below hb, hl⟩
  · obtain ⟨h1, h2, h3⟩ := h.held i r hi k e
    exact ⟨h1, Nat.lt_of_lt_of_le h2 hb.size, h3⟩

/-- What a copied node's two lists must be. -/
structure CpL (w W : World) (v : Value) (r : OneR) : Prop where
  attrs : ∃ a cp, r.av = .slice a r.o.attrs.length cp ∧ AttrsIn W a r.o.attrs ∧ r.o.attrs.length ≤ 1024 ∧ r.o.attrs.length ≤ cp
  kids : ∃ a cp, r.kv = .slice a r.o.kids.length cp ∧ IntsIn W a r.o.kids ∧ r.o.kids.length ≤ 32768
  held : ∀ k, (blk r.av = some k ∨ blk r.kv = some k) → w.heap.size < k ∧ k < W.heap.size ∧ v.ownBlock ≠ some k

theorem CpS.grow {w W w1 : World} {v : Value} {rs : List OneR} {g' cap' : Nat} (h : CpS w W v rs) (r : OneR) (hr : CpL w W v r)
    (hown : w1.ownsRow w.heap.size 57 10 (.slice (some ⟨g', 0, none⟩) (rs.length + 1) cap') (rs.length + 1) (oneRow rs ++ r.cells)) (hgrow : W.grownBy w1 v.ownBlock) (hat : v.ownBlock = some g' ∨ W.heap.size ≤ g') :
    CpS w (w1.setCell ⟨w.heap.size, 0, none⟩ (.slice (some ⟨g', 0, none⟩) (rs.length + 1) cap')) (.slice (some ⟨g', 0, none⟩) (rs.length + 1) cap') (rs ++ [r]) := by
  have hlt := lt_of_block h.cell
  have b1 : ∀ k, k < W.heap.size → v.ownBlock ≠ some k → w1.heap[k]? = W.heap[k]? := fun k hk hne => hgrow.block k hk (fun e => hne e.symm)
  have hR1 := (b1 _ hlt h.ownNe).trans h.cell
  have hgR : g' ≠ w.heap.size := by
    intro e; subst e
    obtain ⟨cur, hc⟩ := ownsRow_block hown (k := w.heap.size) rfl
    rw [hc] at hR1; simp at hR1
  have b2 : ∀ k, k ≠ w.heap.size → (w1.setCell ⟨w.heap.size, 0, none⟩ (.slice (some ⟨g', 0, none⟩) (rs.length + 1) cap')).heap[k]? = w1.heap[k]? := fun k hk => Below.heap_setCell _ _ _ _ hk
  have hsz : W.heap.size ≤ (w1.setCell ⟨w.heap.size, 0, none⟩ (.slice (some ⟨g', 0, none⟩) (rs.length + 1) cap')).heap.size := Nat.le_trans hgrow.size (Mod.setCell (F := fun _ => True) w1 ⟨w.heap.size, 0, none⟩ _ trivial).size
  have all : ∀ (i : Nat) x, (rs ++ [r])[i]? = some x → CpL w (w1.setCell ⟨w.heap.size, 0, none⟩ (.slice (some ⟨g', 0, none⟩) (rs.length + 1) cap')) (.slice (some ⟨g', 0, none⟩) (rs.length + 1) cap') x := by
    intro i x hx
    have hL : CpL w W v x := by
      by_cases hl : i < rs.length
      · rw [List.getElem?_append_left hl] at hx; exact ⟨h.attrs i x hx, h.kids i x hx, h.held i x hx⟩
      · rw [List.getElem?_append_right (by omega)] at hx
        have := List.mem_of_getElem? hx
        simp at this; subst this; exact hr
    have hk : ∀ k, (blk x.av = some k ∨ blk x.kv = some k) → (w1.setCell ⟨w.heap.size, 0, none⟩ (.slice (some ⟨g', 0, none⟩) (rs.length + 1) cap')).heap[k]? = W.heap[k]? := fun k e => by
      obtain ⟨h1, h2, h3⟩ := hL.held k e
      rw [b2 k (by omega), b1 k h2 h3]
    refine ⟨?_, ?_, fun k e => ?_⟩
    · obtain ⟨a, cp, e, ha, hl⟩ := hL.attrs
      exact ⟨a, cp, e, ha.mod (fun b off eb => hk b (.inl (by rw [e, eb]; rfl))), hl⟩
    · obtain ⟨a, cp, e, ha, hl⟩ := hL.kids
      exact ⟨a, cp, e, ha.mod (fun b off eb => hk b (.inr (by rw [e, eb]; rfl))), hl⟩
    · obtain ⟨h1, h2, h3⟩ := hL.held k e
      refine ⟨h1, by omega, fun e2 => ?_⟩
      have e3 : g' = k := by simpa [Value.ownBlock] using e2
      subst e3
      rcases hat with e4 | e4
      · exact h3 e4
      · omega
  refine ⟨?_, ?_, fun i x hx => (all i x hx).attrs, fun i x hx => (all i x hx).kids, fun i x hx => (all i x hx).held, ?_⟩
  · exact one_setCell hR1
  · rw [List.length_append]
    have : oneRow (rs ++ [r]) = oneRow rs ++ r.cells := by simp [oneRow]
    rw [this]
    exact ownsRow_setCell_other hown (by simp [Value.ownBlock]; exact hgR) _
  · refine h.below.trans ⟨?_, ?_, ?_, hsz, fun k hk => ?_⟩
    · exact (Mod.setCell (F := fun _ => True) w1 ⟨w.heap.size, 0, none⟩ _ trivial).os.trans (Mod.grown (F := fun _ => True) hgrow (by simp)).os
    · exact (Mod.setCell (F := fun _ => True) w1 ⟨w.heap.size, 0, none⟩ _ trivial).tape.trans (Mod.grown (F := fun _ => True) hgrow (by simp)).tape
    · exact (Mod.setCell (F := fun _ => True) w1 ⟨w.heap.size, 0, none⟩ _ trivial).output.trans (Mod.grown (F := fun _ => True) hgrow (by simp)).output
    · rw [b2 k (by omega), b1 k (by omega) (fun e => ?_)]
      rcases h.own.2 with ⟨h', _⟩ | ⟨g1, cap1, cur, h', hb, _⟩
      · rw [h'] at e; simp [Value.ownBlock] at e
      · rw [h'] at e
        have e3 : g1 = k := by simpa [Value.ownBlock] using e
        have : w.heap.size ≤ g1 := by first | exact hb | exact hb.1
        omega

theorem cp_down {w : World} {B B' e s n : Nat} {v : Value} {cs : List Value} (h : w.ownsRow B e s v n cs) (hb : B' ≤ B) : w.ownsRow B' e s v n cs := by
  obtain ⟨h1, h2⟩ := h
  refine ⟨h1, ?_⟩
  rcases h2 with h2 | ⟨g, cap, cur, e1, hg, rest⟩
  · exact .inl h2
  · exact .inr ⟨g, cap, cur, e1, Nat.le_trans hb hg, rest⟩

/-- A copy that is whole is an arena. -/
theorem CpS.rf {w wx : World} {v : Value} {rs : List OneR} {base : Nat} (h : CpS w wx v rs) (hbase : base ≤ w.heap.size) (h0 : 0 < rs.length) (hn : rs.length ≤ 32768) :
    ∃ g cap, Rf wx base w.heap.size g cap rs ∧ ∀ k, footR w.heap.size g rs k → w.heap.size ≤ k := by
  rcases h.own.2 with ⟨h', h2⟩ | ⟨g, cap, cur, h', hb, rest⟩
  · exfalso
    first | omega | (obtain ⟨_, h3⟩ := h2; omega) | (simp at h2; omega)
  · have hg : w.heap.size ≤ g := by first | exact hb | exact hb.1
    have hown := h.own
    have hcell := h.cell
    have hheld := h.held
    rw [h'] at hown hcell hheld
    refine ⟨g, cap, ⟨hcell, cp_down hown hbase, hbase, h0, hn, h.attrs, h.kids, fun i r hi k e => ?_⟩, fun k hk => ?_⟩
    · obtain ⟨h1, h2, h3⟩ := hheld i r hi k e
      refine ⟨by omega, h2, by omega, fun e2 => h3 ?_⟩
      subst e2
      rfl
    · rcases hk with rfl | rfl | ⟨r, hr, e⟩
      · exact Nat.le_refl _
      · exact hg
      · obtain ⟨i, hi⟩ := List.mem_iff_getElem?.1 hr
        have := (hheld i r hi k e).1
        omega

abbrev box10 (r : OneR) (av kv : Value) : Obj := .cells #[.int .i64 r.o.kind, .int .i64 r.o.space, .string r.o.name, av, .string r.o.data, .string r.o.system, .int .i64 r.o.inner, .int .i64 r.o.host, .int .i64 r.o.up, kv] 57
theorem box10_cells {W : World} {b : Nat} {r : OneR} {av kv : Value} (h : W.heap[b]? = some (box10 r av kv)) :
    W.cell? ⟨b, 0, none⟩ = some (.int .i64 r.o.kind) ∧ W.cell? ⟨b, 1, none⟩ = some (.int .i64 r.o.space) ∧ W.cell? ⟨b, 2, none⟩ = some (.string r.o.name) ∧ W.cell? ⟨b, 3, none⟩ = some av ∧ W.cell? ⟨b, 4, none⟩ = some (.string r.o.data) ∧ W.cell? ⟨b, 5, none⟩ = some (.string r.o.system) ∧
    W.cell? ⟨b, 6, none⟩ = some (.int .i64 r.o.inner) ∧ W.cell? ⟨b, 7, none⟩ = some (.int .i64 r.o.host) ∧ W.cell? ⟨b, 8, none⟩ = some (.int .i64 r.o.up) ∧ W.cell? ⟨b, 9, none⟩ = some kv ∧ ∀ j, W.frozen? ⟨b, j, none⟩ = false := by
  refine ⟨?_, ?_, ?_, ?_, ?_, ?_, ?_, ?_, ?_, ?_, fun j => by simp [World.frozen?, h]⟩ <;> simp [World.cell?, h]
theorem cp_rowSet {W : World} {b i : Nat} {arr : Array Value} {t : TypeId} {fr : Nat × Nat} (h : W.heap[b]? = some (.cells arr t fr)) (v : Value) : (W.setCell ⟨b, i, none⟩ v).heap[b]? = some (.cells (arr.setIfInBounds i v) t fr) := by
  simp [World.setCell, Array.getElem?_modify, h]
/-- A list, whatever its length, appended to an empty one. -/
theorem cp_append {P : Program} {w : World} {ops : Array Oper} {rest : List Oper} {o : Oper} {a : Act} {Q : Exit → Act → World → Prop} (hgd : o.guard = none) (s x : Operand) (t : TypeId)
    (ho : o.op = .call { callee := .builtin .append, args := #[s, x], argTypes := #[t, t] })
    (e : TypeId) (i : TypeInfo) (z : Value) (size bytes : Nat) (ht : P.underlying t = some (.slice e)) (hi : P.info? e = some i) (hz : i.zero = some z)
    (hsize : i.size = size) (hby : i.bytes = bytes) (hzs : z.cells.size = size) (hsz : 0 < size)
    (k : Nat) (hs : a.eval s = .slice (some ⟨k, 0, none⟩) 0 0) (hk : w.heap[k]? = some (.cells #[] e (0, 0)))
    (src : Option Addr) (m c : Nat) (news : List Value) (hx : a.eval x = .slice src m c) (hl : news.length = m * size) (hnews : ∀ b off, src = some ⟨b, off, none⟩ → ∀ j u, news[j]? = some u → w.cell? ((⟨b, off, none⟩ : Addr).add j) = some u)
    (hsrc : 0 < m → ∃ b off, src = some ⟨b, off, none⟩) (h1 : ∀ u ∈ news, u.oneCell' = true) (h63 : m ≤ maxLen) (hbytes : m * bytes ≤ 140737488355328)
    (h : ∀ g cap w', w'.ownsRow k e size (.slice (some ⟨g, 0, none⟩) m cap) m news → w.grownBy w' (some k) → (g = k ∨ g = w.heap.size) → g < w'.heap.size → wpList P ops Q rest (a.put o.dst (.slice (some ⟨g, 0, none⟩) m cap)) w') : wpList P ops Q (o :: rest) a w := by
  have hklt := lt_of_block hk
  have hown : w.ownsRow k e size (.slice (some ⟨k, 0, none⟩) 0 0) 0 [] := ⟨by simp, .inr ⟨k, 0, #[], rfl, Nat.le_refl _, hk, Nat.le_refl _, by simp [maxLen], by simp, by simp⟩⟩
  by_cases hm : 0 < m
  · obtain ⟨b, off, rfl⟩ := hsrc hm
    refine wpList_append_lies w hgd s x t ho k e i z size bytes ht hi hz hsize hby hzs hsz _ 0 [] hs hown ⟨b, off, none⟩ m c news hx hl (hnews b off rfl) h1 hm (by omega) (by simpa using hbytes) (Nat.le_of_lt hklt) _ rfl ?_
    intro g cap w' h2 h3 h4 h5
    simp only [Nat.zero_add, List.nil_append] at h2 ⊢
    refine h g cap w' h2 h3 (h4.imp (fun e => ?_) id) h5
    simp [Value.ownBlock] at e
    exact e.symm
  · obtain rfl : m = 0 := by omega
    obtain rfl : news = [] := List.eq_nil_of_length_eq_zero (by omega)
    have hS : Src P i.size t (.slice src 0 c) 0 [] w := by
      cases src with
      | none => exact Src.ofNil w ht c
      | some ad => exact Src.ofSlice w ht ad 0 c [] (by simp) (fun j u hu => by simp at hu) (by simp)
    have hr := run_append_nothing (P := P) w t t o.type e i ht hi (some ⟨k, 0, none⟩) 0 0 (Nat.le_refl _) (.slice src 0 c) hS
    refine wpList_plain hgd fun K hK => ?_
    unfold Oper.wp execOp
    simp only [ho, resolve, invoke, builtin, Sem.run_bind, Sem.run_pure, Result.andThen_ok, List.map_toArray, List.map_cons, List.map_nil, hs, hx, hr]
    exact hK _ _ (h k 0 w hown ⟨rfl, rfl, rfl, Nat.le_refl _, fun _ _ _ => rfl⟩ (.inl rfl) hklt)

theorem cp_cap {w : World} {B e s n g cap : Nat} {cs : List Value} (h : w.ownsRow B e s (.slice (some ⟨g, 0, none⟩) n cap) n cs) : n ≤ cap := by
  rcases h.2 with ⟨h', _⟩ | ⟨g1, cap1, cur, h', _, _, hle, _⟩
  · simp at h'
  · simp at h'
    obtain ⟨_, rfl⟩ := h'
    exact hle

theorem cp_last (X : World) (k : Nat) (e : TypeId) (hk : X.heap.size = k) : (X.alloc (.cells #[] e)).heap[k]? = some (.cells #[] e (0, 0)) := by subst hk; exact heap_alloc_new X _
theorem cp_size (X : World) (p : Addr) (v : Value) : (X.setCell p v).heap.size = X.heap.size := by simp
theorem cp_one {wr w1 : World} {o : Obj} {e : TypeId} (hg : ((wr.alloc o).alloc (.cells #[] e)).grownBy w1 (some (wr.heap.size + 1))) : w1.heap[wr.heap.size]? = some o ∧ Below wr.heap.size wr w1 ∧ wr.heap.size + 2 ≤ w1.heap.size := by
  have hs := hg.size
  simp only [World.size_alloc] at hs
  refine ⟨(hg.block wr.heap.size (by simp only [World.size_alloc]; omega) (by simp)).trans ((Below.heap_alloc _ _ _ (by simp)).trans (heap_alloc_new wr _)), (((Below.refl _ wr).alloc (Nat.le_refl _) _).alloc (by simp) _).grown hg (by simp only [World.size_alloc]; omega) (fun k hk => ?_), hs⟩
  have : wr.heap.size + 1 = k := Option.some.inj hk
  omega
theorem cp_at1 {wr : World} {o : Obj} {e : TypeId} {g : Nat} (h : g = wr.heap.size + 1 ∨ g = ((wr.alloc o).alloc (.cells #[] e)).heap.size) : wr.heap.size < g ∧ g ≤ wr.heap.size + 2 := by
  simp only [World.size_alloc] at h
  omega
theorem cp_at2 {w1 : World} {p : Addr} {v : Value} {e : TypeId} {g : Nat} (h : g = w1.heap.size ∨ g = ((w1.setCell p v).alloc (.cells #[] e)).heap.size) : w1.heap.size ≤ g := by
  simp only [World.size_alloc, cp_size] at h
  omega
theorem cp_below {wr w1 : World} {i : Nat} (h : Below wr.heap.size wr w1) (v : Value) (o : Obj) : Below wr.heap.size wr ((w1.setCell ⟨wr.heap.size, i, none⟩ v).alloc o) :=
  (h.setCell (Nat.le_refl _) v).alloc (by rw [cp_size]; exact h.size) o
theorem cp_two {wr w1 w2 : World} {r : OneR} {av kv kv' : Value} {e : TypeId} (hbx : w1.heap[wr.heap.size]? = some (box10 r av kv)) (hB : Below wr.heap.size wr w1) (hg : ((w1.setCell ⟨wr.heap.size, 9, none⟩ kv').alloc (.cells #[] e)).grownBy w2 (some w1.heap.size)) :
    w2.heap[wr.heap.size]? = some (box10 r av kv') ∧ Below wr.heap.size wr w2 ∧ w1.heap.size + 1 ≤ w2.heap.size ∧ ∀ k, k ≠ wr.heap.size → k < w1.heap.size → w2.heap[k]? = w1.heap[k]? := by
  have hs := hg.size
  have hl := lt_of_block hbx
  simp only [World.size_alloc, cp_size] at hs
  have hb : ∀ k, k < w1.heap.size → w2.heap[k]? = (w1.setCell ⟨wr.heap.size, 9, none⟩ kv').heap[k]? := fun k hk =>
    (hg.block k (by simp only [World.size_alloc, cp_size]; omega) (by simp; omega)).trans (Below.heap_alloc _ _ _ (by rw [cp_size]; exact hk))
  refine ⟨(hb _ hl).trans (cp_rowSet hbx _), (cp_below hB kv' _).grown hg (by simp only [World.size_alloc, cp_size]; omega) (fun k hk => ?_), hs, fun k h1 h2 => (hb k h2).trans (Below.heap_setCell _ _ _ _ h1)⟩
  have : w1.heap.size = k := Option.some.inj hk
  omega
theorem cp_newsD (X : World) (o : Obj) (B : Nat) (r : OneR) (ho : o = .cells r.cells.toArray 57) (hB : X.heap.size = B) : ∀ j u, r.cells[j]? = some u → (X.alloc o).drew.cell? ((⟨B, 0, none⟩ : Addr).add j) = some u := by
  subst ho
  exact World.news_of_block (w := (X.alloc (.cells r.cells.toArray 57)).drew) (B := B) (t := 57) (fr := (0, 0)) (by subst hB; exact heap_alloc_new X _)
theorem cp_drew (X : World) : X.drew.heap = X.heap := rfl
theorem cp_rowA {w W : World} {src : Option Addr} {l : List AttrM} (h : AttrsIn w src l) (hb : Below w.heap.size w W) : ∀ b off, src = some ⟨b, off, none⟩ → ∀ j u, (attrRow l)[j]? = some u → W.cell? ((⟨b, off, none⟩ : Addr).add j) = some u := fun b off e => by subst e; exact (h.below hb).row
theorem cp_own {w wr W : World} {v : Value} {j : Nat} {cs : List Value} (h : wr.ownsRow w.heap.size 57 10 v j cs) (hl : ∀ k, v.ownBlock = some k → k < wr.heap.size) (hb : Below wr.heap.size wr W) : W.ownsRow w.heap.size 57 10 v j cs := ownsRow_kept h (fun k e => hb.block k (hl k e))

/-- Behind a round of the copy. -/
theorem cp_round {w wr W2 w3 : World} {v : Value} {rs rs' : List OneR} {j : Nat} {r : OneR} {g4 c4 gk ck ga ca : Nat} (hC : CpS w wr v rs') (he : osOf rs' = (osOf rs).take j) (hr : rs[j]? = some r) (hl : rs'.length = j)
    (hb : Below wr.heap.size wr W2) (hk : IntsIn W2 (some ⟨gk, 0, none⟩) r.o.kids) (hkl : r.o.kids.length ≤ 32768) (hgk : wr.heap.size ≤ gk ∧ gk < W2.heap.size) (ha : AttrsIn W2 (some ⟨ga, 0, none⟩) r.o.attrs) (hal : r.o.attrs.length ≤ 1024) (hac : r.o.attrs.length ≤ ca) (hga : wr.heap.size ≤ ga ∧ ga < W2.heap.size)
    (hown : w3.ownsRow w.heap.size 57 10 (.slice (some ⟨g4, 0, none⟩) (j + 1) c4) (j + 1) (oneRow rs' ++ OneR.cells ⟨r.o, .slice (some ⟨ga, 0, none⟩) r.o.attrs.length ca, .slice (some ⟨gk, 0, none⟩) r.o.kids.length ck⟩)) (hgrow : W2.grownBy w3 v.ownBlock) (hat : v.ownBlock = some g4 ∨ W2.heap.size ≤ g4) :
    ∃ v' rs'', CpS w (w3.setCell ⟨w.heap.size, 0, none⟩ (.slice (some ⟨g4, 0, none⟩) (j + 1) c4)) v' rs'' ∧ osOf rs'' = (osOf rs).take (j + 1) := by
  subst hl
  have hC2 := hC.more hb
  refine ⟨_, _, hC2.grow ⟨r.o, .slice (some ⟨ga, 0, none⟩) r.o.attrs.length ca, .slice (some ⟨gk, 0, none⟩) r.o.kids.length ck⟩ ⟨⟨_, _, rfl, ha, hal, hac⟩, ⟨_, _, rfl, hk, hkl⟩, fun k e => ?_⟩ hown hgrow hat, ?_⟩
  · have hlt := lt_of_block hC.cell
    have hne : ∀ k, wr.heap.size ≤ k → v.ownBlock ≠ some k := fun k hk e => by have := hC.ownLt e; omega
    rcases e with e | e
    · have : ga = k := by simpa [blk] using e
      subst this
      exact ⟨by omega, hga.2, hne _ hga.1⟩
    · have : gk = k := by simpa [blk] using e
      subst this
      exact ⟨by omega, hgk.2, hne _ hgk.1⟩
  · have hget := osOf_get hr
    have hlt := (List.getElem?_eq_some_iff.1 hget).1
    rw [List.take_succ_eq_append_getElem hlt, ← he]
    have : (osOf rs)[rs'.length] = r.o := (List.getElem?_eq_some_iff.1 hget).2
    rw [this]
    simp [osOf]
theorem cp_new (w : World) : CpS w (w.alloc (.cells #[.slice none 0 0] 60)) (.slice none 0 0) [] :=
  ⟨heap_alloc_new w _, World.ownsRow_nil _ _ _ _, fun i r hi => by simp at hi, fun i r hi => by simp at hi, fun i r hi => by simp at hi, (Below.refl _ w).alloc (Nat.le_refl _) _⟩

set_option maxRecDepth 100000 in
set_option maxHeartbeats 8000000 in
theorem refCopy_in {w : World} {base bR g cap : Nat} {rs : List OneR} (h : Rf w base bR g cap rs) :
    Calls Tryz.prog 14 #[.pointer (some ⟨bR, 0, none⟩)] w fun e w' => ∃ v rs', e = .returned (.pointer (some ⟨w.heap.size, 0, none⟩)) ∧ CpS w w' v rs' ∧ osOf rs' = osOf rs := by
  have hA := h.cR
  have hlR := h.lt.1
  have hn := h.most
  have HH := hide h
  obtain ⟨i0, hi0, hz0, hz1, hz2⟩ := info_parts Tryz.info3
  obtain ⟨i1, hi1, hy0, hy1, hy2⟩ := info_parts Tryz.info72
  obtain ⟨i2, hi2, hx0, hx1, hx2⟩ := info_parts Tryz.info57
  clear h
  go_enter Tryz.func14, Tryz.ntmps14
  go_wp2
  go_loopg [4] rs.length (fun k s4 wx => ∃ (j : Nat) (v : Value) (rs' : List OneR), s4 = .int .i64 j ∧ j + k = rs.length ∧ CpS w wx v rs' ∧ osOf rs' = (osOf rs).take j)
  case atStart => exact ⟨0, _, [], rfl, by omega, cp_new w, rfl⟩
  case round =>
    obtain ⟨j, v, rs', rfl, hjk, hC, he⟩ := hrel
    obtain ⟨gk0, hgk0⟩ : ∃ x, x = gk := ⟨_, rfl⟩
    have HGK : Hid (j + gk0 = rs.length ∧ gk0 = gk) := hide ⟨by omega, hgk0⟩
    clear hgk0
    have hA' := (hC.below.cell (p := ⟨bR, 0, none⟩) hlR).trans hA
    have HC := hide hC
    by_cases hj : j < rs.length
    · have hjz : (j : Int) < (rs.length : Int) := by omega
      obtain ⟨r, hr⟩ : ∃ r, rs[j]? = some r := ⟨_, List.getElem?_eq_getElem hj⟩
      have hl' : rs'.length = j := by
        have := congrArg List.length he
        rw [osOf_len, List.length_take, osOf_len] at this
        omega
      obtain ⟨c0, c1, c2, c3, c4, c5, c6, c7, c8, c9⟩ := ((unhide HH).below hC.below).cells10 hr
      obtain ⟨aa, ac, eav, hain, hal, hac⟩ := ((unhide HH).below hC.below).attrs j r hr
      obtain ⟨ka, kc, ekv, hkin, hkl⟩ := ((unhide HH).below hC.below).kids j r hr
      rw [eav] at c3
      rw [ekv] at c9
      have hlw := lt_of_block hC.cell
      have HOWN := hide (hl' ▸ hC.own)
      have HCELL := hide hC.cell
      have HNE := hide hC.ownNe
      have HOL := hide (fun k e => hC.ownLt (k := k) e)
      have HR := hide hr
      have HE := hide he
      have HL' := hide hl'
      have HKIN := hide hkin
      have HAIN := hide hain
      have HBW := hide hC.below
      clear hC he hr hl' hkin hain eav ekv
      have HKB := hide (cp_last (wr.alloc (box10 r (.slice aa r.o.attrs.length ac) (.slice ka r.o.kids.length kc))) (wr.heap.size + 1) 3 (by simp))
      have HNK : Hid (∀ b off, ka = some ⟨b, off, none⟩ → ∀ j u, (intsV r.o.kids)[j]? = some u → ((wr.alloc (box10 r (.slice aa r.o.attrs.length ac) (.slice ka r.o.kids.length kc))).alloc (.cells #[] 3)).cell? ((⟨b, off, none⟩ : Addr).add j) = some u) := hide (fun b off e => by subst e; exact ((unhide HKIN).below (((Below.refl _ wr).alloc (Nat.le_refl _) _).alloc (by simp) _)).row)
      have HSK : Hid (0 < r.o.kids.length → ∃ b off, ka = some ⟨b, off, none⟩) := hide (fun h0 => (unhide HKIN).at h0)
      have HSA : Hid (0 < r.o.attrs.length → ∃ b off, aa = some ⟨b, off, none⟩) := hide (fun h0 => by obtain ⟨b, off, e, _⟩ := (unhide HAIN).cells 0 _ (List.getElem?_eq_getElem h0); exact ⟨b, off, e⟩)
      have hnew : ¬ w.heap.size = wr.heap.size := by omega
      go_wp2_with (first
        | (have _x := unhide HBX1; at_builtin; go_must (refine cp_append (by rfl) _ _ 34 (by rfl) 72 i1 _ 4 56 Tryz.underlying34 hi1 hy0 hy1 hy2 rfl (by omega) w1.heap.size (by rfl) (by exact cp_last _ w1.heap.size 72 (by simp)) aa r.o.attrs.length ac (attrRow r.o.attrs) (by rfl) (flat_len AttrM.cells 4 attr_len r.o.attrs) (by exact cp_rowA (unhide HAIN) (cp_below (unhide HB1) _ _)) (unhide HSA) (attrs_oneCell r.o.attrs) (by unfold maxLen; omega) (by omega) ?_); intro ga ca w2 hown2 hgrow2 hat2 hlt2; obtain ⟨hbx2, hB2, hs2, hK2⟩ := cp_two (unhide HBX1) (unhide HB1) hgrow2; have hlb2 : wr.heap.size < w2.heap.size := Nat.lt_of_lt_of_le hlb1 (Nat.le_of_succ_le hs2); have hat2' := cp_at2 hat2; have hR2 : w2.heap[w.heap.size]? = some (.cells #[v] 60 (0, 0)) := (hB2.block _ hlw).trans (unhide HCELL); have r2 := cell_of_one hR2; have f2 := free_of_one hR2; obtain ⟨p0, p1, p2, p3, p4, p5, p6, p7, p8, p9, pf⟩ := box10_cells hbx2; have HBX2 := hide hbx2; have HB2 := hide hB2; have HOA := hide hown2; have HAT2 := hide hat2'; have HK2 := hide hK2; have HLT2 := hide hlt2; have HS2 := hide hs2; clear hbx2 hB2 hown2 hgrow2 hat2 hat2' hK2 hR2 hs2 hlt2)
        | (at_builtin; go_must (refine cp_append (by rfl) _ _ 32 (by rfl) 3 i0 _ 1 8 Tryz.underlying32 hi0 hz0 hz1 hz2 rfl (by omega) (wr.heap.size + 1) (by rfl) (by exact (unhide HKB)) ka r.o.kids.length kc (intsV r.o.kids) (by rfl) (by simp [intsV]) (unhide HNK) (unhide HSK) (ints_oneCell r.o.kids) (by unfold maxLen; omega) (by omega) ?_); intro gk ck w1 hown1 hgrow1 hat1 hlt1; obtain ⟨hbx1, hB1, hs1⟩ := cp_one hgrow1; have hlb1 : wr.heap.size < w1.heap.size := Nat.lt_of_lt_of_le (Nat.lt_of_succ_lt (Nat.lt_succ_self _)) hs1; have hat1' := cp_at1 hat1; obtain ⟨d0, d1, d2, d3, d4, d5, d6, d7, d8, d9, df⟩ := box10_cells hbx1; have HBX1 := hide hbx1; have HB1 := hide hB1; have HOK := hide hown1; have HAT1 := hide hat1'; have HS1 := hide hs1; have HLT1 := hide hlt1; clear hbx1 hB1 hown1 hgrow1 hat1 hat1' hs1 hlt1))
      have hlb3 : w.heap.size < w2.heap.size := Nat.lt_trans hlw hlb2
      have hlb4 : ¬ w.heap.size = w2.heap.size := by omega
      have HQ1 := hide (cp_own (unhide HOWN) (unhide HOL) (cp_below (i := 3) (unhide HB2) (.slice (some ⟨ga, 0, none⟩) r.o.attrs.length ca) (box10 r (.slice (some ⟨ga, 0, none⟩) r.o.attrs.length ca) (.slice (some ⟨gk, 0, none⟩) r.o.kids.length ck))).drew)
      have HQ2 := hide (cp_newsD (w2.setCell ⟨wr.heap.size, 3, none⟩ (.slice (some ⟨ga, 0, none⟩) r.o.attrs.length ca)) (box10 r (.slice (some ⟨ga, 0, none⟩) r.o.attrs.length ca) (.slice (some ⟨gk, 0, none⟩) r.o.kids.length ck)) w2.heap.size ⟨r.o, (.slice (some ⟨ga, 0, none⟩) r.o.attrs.length ca), (.slice (some ⟨gk, 0, none⟩) r.o.kids.length ck)⟩ rfl (by simp))
      have HQ3 := hide (Nat.le_of_lt (Nat.lt_of_lt_of_le hlw (cp_below (i := 3) (unhide HB2) (.slice (some ⟨ga, 0, none⟩) r.o.attrs.length ca) (box10 r (.slice (some ⟨ga, 0, none⟩) r.o.attrs.length ca) (.slice (some ⟨gk, 0, none⟩) r.o.kids.length ck))).drew.size))
      go_region_law ((refine step_append_lies _ (by rfl) _ _ _ (by rfl) w.heap.size 57 i2 _ 10 136 Tryz.underlying58 hi2 hx0 hx1 hx2 rfl (by omega) v j (oneRow rs') (by rfl) (unhide HQ1) ⟨w2.heap.size, 0, none⟩ 1 1 (OneR.cells ⟨r.o, (.slice (some ⟨ga, 0, none⟩) r.o.attrs.length ca), (.slice (some ⟨gk, 0, none⟩) r.o.kids.length ck)⟩) (by rfl) (by rfl) (unhide HQ2) (by simp [OneR.cells, Value.oneCell']) (by omega) (by unfold maxLen; omega) (by omega) (unhide HQ3) (w2.heap.size + 1) (by simp) ?_); (intro g4 c4 w3 hown3 hgrow3 hat3 hlt3; have hB3 := (cp_below (i := 3) (unhide HB2) (.slice (some ⟨ga, 0, none⟩) r.o.attrs.length ca) (box10 r (.slice (some ⟨ga, 0, none⟩) r.o.attrs.length ca) (.slice (some ⟨gk, 0, none⟩) r.o.kids.length ck))).drew; have hR3 : w3.heap[w.heap.size]? = some (.cells #[v] 60 (0, 0)) := (hgrow3.block _ (Nat.lt_of_lt_of_le hlw hB3.size) (fun e => (unhide HNE) e.symm)).trans ((hB3.block _ hlw).trans (unhide HCELL)); have r3 := cell_of_one hR3; have f3 := free_of_one hR3; have HB3 := hide hB3; have HOR := hide hown3; have HG3 := hide hgrow3; have HAT3 := hide hat3; clear hB3 hR3 hown3 hgrow3 hat3))
      all_goals go_wp2
      all_goals
       go_roundg (gk0 - 1)
       case measure => have := unhide HGK; omega
       case rel =>
         have hs1 := unhide HS1
         have hs2 := unhide HS2
         have hat1 := unhide HAT1
         have hat2 := unhide HAT2
         have hlt1 := unhide HLT1
         have hlt2 := unhide HLT2
         have hk3 : IntsIn ((w2.setCell ⟨wr.heap.size, 3, none⟩ (.slice (some ⟨ga, 0, none⟩) r.o.attrs.length ca)).alloc (box10 r (.slice (some ⟨ga, 0, none⟩) r.o.attrs.length ca) (.slice (some ⟨gk, 0, none⟩) r.o.kids.length ck))).drew (some ⟨gk, 0, none⟩) r.o.kids := by
           obtain ⟨a', c', e', hin, _⟩ := ownsRow_ints (unhide HOK)
           simp at e'
           obtain ⟨rfl, _⟩ := e'
           refine hin.mod fun b off e => ?_
           simp at e
           obtain ⟨rfl, _⟩ := e
           rw [cp_drew, Below.heap_alloc _ _ _ (by rw [cp_size]; omega), Below.heap_setCell _ _ _ _ (by simp; omega)]
           exact (unhide HK2) _ (by omega) hlt1
         have ha3 : AttrsIn ((w2.setCell ⟨wr.heap.size, 3, none⟩ (.slice (some ⟨ga, 0, none⟩) r.o.attrs.length ca)).alloc (box10 r (.slice (some ⟨ga, 0, none⟩) r.o.attrs.length ca) (.slice (some ⟨gk, 0, none⟩) r.o.kids.length ck))).drew (some ⟨ga, 0, none⟩) r.o.attrs := by
           obtain ⟨a', c', e', hin⟩ := ownsRow_attrs (unhide HOA)
           simp at e'
           obtain ⟨rfl, _⟩ := e'
           refine hin.mod fun b off e => ?_
           simp at e
           obtain ⟨rfl, _⟩ := e
           rw [cp_drew, Below.heap_alloc _ _ _ (by rw [cp_size]; omega), Below.heap_setCell _ _ _ _ (by simp; omega)]
         obtain ⟨v', rs'', hc', he'⟩ := cp_round (unhide HC) (unhide HE) (unhide HR) (unhide HL') (unhide HB3) hk3 hkl (by rw [cp_drew, World.size_alloc, cp_size]; omega) ha3 hal (cp_cap (unhide HOA)) (by rw [cp_drew, World.size_alloc, cp_size]; omega) (unhide HOR) (unhide HG3) ((unhide HAT3).imp id (fun e => by rw [e, cp_drew, World.size_alloc, cp_size]; omega))
         exact ⟨j + 1, v', rs'', by go_num, by have := unhide HGK; omega, hc', he'⟩
    · have hjz : ¬ (j : Int) < (rs.length : Int) := by omega
      obtain rfl : j = rs.length := by omega
      clear hC
      go_wp2
      go_ret
      exact ⟨rfl, v, rs', unhide HC, by rw [he, ← osOf_len, List.take_length]⟩
end Go.Proofs.YtnclnijlpchdnaaGreat

namespace Go.Proofs.YtnclnijlpchdnaaGreat
open Go.RowKit

/-- A copy of the document's arena, beside the program's. -/
theorem copyBoth {w0 w : World} {bA bR : Nat} {os : List OneM} (h : Both w0 w bA bR os) :
    Calls Tryz.prog 14 #[.pointer (some ⟨bR, 0, none⟩)] w fun e w' => e = .returned (.pointer (some ⟨w.heap.size, 0, none⟩)) ∧ Both w0 w' bA w.heap.size os ∧ Below w.heap.size w w' := by
  obtain ⟨ns, F, G, hp⟩ := h
  have hrf := hp.rf
  obtain ⟨g, cap, rs, hR, ho, hG⟩ := hrf
  refine (refCopy_in hR).mono fun e w' ⟨v, rs', h1, hC, he⟩ => ⟨h1, ?_, hC.below⟩
  have hl : rs'.length = rs.length := by
    have := congrArg List.length he
    rwa [osOf_len, osOf_len] at this
  obtain ⟨g', cap', hR', hf⟩ := hC.rf (base := w0.heap.size) hp.below.size (by rw [hl]; exact hR.pos) (by rw [hl]; exact hR.most)
  refine ⟨ns, F, footR w.heap.size g' rs', hp.ar.below hC.below, hp.sim, ⟨g', cap', rs', hR', by rw [he, ho], fun k => Iff.rfl⟩, hp.below.trans (hC.below.mono hp.below.size), hp.newF, fun k hk => Nat.le_trans hp.below.size (hf k hk), fun k hk hg => ?_⟩
  have := (hp.ar.lt hk).2
  have := hf k hg
  omega

/-- What becomes of a call that answers an error alone. -/
def Fate (w W : World) (bA bC K : Nat) (args : Array Value) : Prop :=
  Calls Tryz.prog K args W fun e w1 => ∃ ev : Int, e = .returned (.int .i64 ev) ∧ Below w.heap.size w w1 ∧ (ev ≠ 0 → Calls Tryz.prog 10 #[.pointer (some ⟨bA, 0, none⟩), .pointer (some ⟨bC, 0, none⟩)] w1 fun e w2 => e = .returned (.bool true) ∧ Below w.heap.size w w2)
/-- .. of one that answers a node and an error. -/
def FateT (w W : World) (bA bC K : Nat) (args : Array Value) : Prop :=
  Calls Tryz.prog K args W fun e w1 => ∃ id ev : Int, e = .returned (.tuple #[.int .i64 id, .int .i64 ev]) ∧ Below w.heap.size w w1 ∧ (ev ≠ 0 → Calls Tryz.prog 10 #[.pointer (some ⟨bA, 0, none⟩), .pointer (some ⟨bC, 0, none⟩)] w1 fun e w2 => e = .returned (.bool true) ∧ Below w.heap.size w w2)

theorem fate_of {w0 W w1 : World} {bA bC : Nat} {os os1 : List OneM} {ns : List NodeM} {F G : Nat → Prop} (hp : Pair w0 W bA bC os os ns F G) (hu : USim F W w1 w0.heap.size bA os1) :
    Below w0.heap.size w0 w1 ∧ (os1 = os → Calls Tryz.prog 10 #[.pointer (some ⟨bA, 0, none⟩), .pointer (some ⟨bC, 0, none⟩)] w1 fun e w2 => e = .returned (.bool true) ∧ Below w0.heap.size w0 w2) := by
  obtain ⟨ns1, F1, hp1, _⟩ := hp.prog (Below.refl _ _) hu
  refine ⟨hp1.below, fun e => ?_⟩
  subst e
  obtain ⟨g', cap', hQ⟩ := tellQ (⟨ns1, F1, G, hp1⟩ : Both w0 w1 bA bC os1)
  exact (same2_any hQ).mono fun e w2 ⟨h1, h2⟩ => ⟨h1, hp1.below.trans (h2.mono hp1.below.size)⟩

theorem addText_err {os : List OneM} {s : ByteArray} {p : Int} (h : (addTextO os s p).2.2 ≠ 0) : (addTextO os s p).1 = os := by
  unfold addTextO at h ⊢
  repeat' split
  all_goals first
    | rfl
    | (rename_i h1 h2 h3 h4; rw [if_neg h1, if_neg h2, if_neg h3, if_neg h4] at h; exact absurd rfl h)
theorem addElem_err {os : List OneM} {s : ByteArray} {p : Int} (h : (addElemO os s p).2.2 ≠ 0) : (addElemO os s p).1 = os := by
  unfold addElemO at h ⊢
  repeat' split
  all_goals first
    | rfl
    | (rename_i h1 h2 h3 h4; rw [if_neg h1, if_neg h2, if_neg h3, if_neg h4] at h; exact absurd rfl h)

/-- What is behind the script's loop in EditRefuses. -/
structure RefsQ (w W : World) (bA bC : Nat) (o : OpE) : Prop where
  ins : Fate w W bA bC 15 #[.pointer (some ⟨bA, 0, none⟩), .int .i64 o.a, .int .i64 o.b, .int .i64 o.c]
  rem : Fate w W bA bC 16 #[.pointer (some ⟨bA, 0, none⟩), .int .i64 o.a]
  text : FateT w W bA bC 17 #[.pointer (some ⟨bA, 0, none⟩), .string o.text, .int .i64 o.b]
  elem : FateT w W bA bC 18 #[.pointer (some ⟨bA, 0, none⟩), .string o.text, .int .i64 o.b]
  set : Fate w W bA bC 19 #[.pointer (some ⟨bA, 0, none⟩), .int .i64 o.a, .string o.text, .string o.more]
  del : Fate w W bA bC 20 #[.pointer (some ⟨bA, 0, none⟩), .int .i64 o.a, .string o.text]
  data : Fate w W bA bC 21 #[.pointer (some ⟨bA, 0, none⟩), .int .i64 o.a, .string o.text]

theorem refsQ {w W : World} {bA bC : Nat} {os : List OneM} (h : Both w W bA bC os) (o : OpE) (hm : o.text.size ≤ maxLen) : RefsQ w W bA bC o := by
  obtain ⟨ns, F, G, hp⟩ := h
  refine ⟨?_, ?_, ?_, ?_, ?_, ?_, ?_⟩
  · refine (insert_any hp.ar hp.sim o.a o.b o.c).mono fun e w' ⟨h1, hu⟩ => ⟨_, h1, (fate_of hp hu).1, fun he => (fate_of hp hu).2 ?_⟩
    rw [insR, if_neg he]
  · refine (remove_any hp.ar hp.sim o.a).mono fun e w' ⟨h1, hu⟩ => ⟨_, h1, (fate_of hp hu).1, fun he => (fate_of hp hu).2 ?_⟩
    rw [unlinkR, if_neg]
    intro e0
    apply he
    rw [removeE, e0]
    rfl
  · exact (addText_any hp.ar hp.sim o.text o.b).mono fun e w' ⟨h1, hu⟩ => ⟨_, _, h1, (fate_of hp hu).1, fun he => (fate_of hp hu).2 (addText_err he)⟩
  · exact (addElem_any hp.ar hp.sim o.text hm o.b).mono fun e w' ⟨h1, hu⟩ => ⟨_, _, h1, (fate_of hp hu).1, fun he => (fate_of hp hu).2 (addElem_err he)⟩
  · refine (edSet_any hp.ar hp.sim o.a o.text o.more hm).mono fun e w' ⟨h1, hu⟩ => ⟨_, h1, (fate_of hp hu).1, fun he => (fate_of hp hu).2 ?_⟩
    unfold edSetE at he
    unfold edSetR setAttrR
    split
    · rfl
    · rename_i h2
      rw [if_neg h2] at he
      rw [if_neg he]
  · refine (edDel_any hp.ar hp.sim o.a o.text hm).mono fun e w' ⟨h1, hu⟩ => ⟨_, h1, (fate_of hp hu).1, fun he => (fate_of hp hu).2 ?_⟩
    unfold edDelE at he
    unfold edDelR delAttrR
    split
    · rfl
    · rename_i h2
      rw [if_neg h2] at he
      rw [if_neg he]
  · refine (edSetData_any hp.ar hp.sim o.a o.text).mono fun e w' ⟨h1, hu⟩ => ⟨_, h1, (fate_of hp hu).1, fun he => (fate_of hp hu).2 ?_⟩
    rw [setDataR, if_neg he]

set_option maxRecDepth 100000 in
set_option maxHeartbeats 16000000 in
theorem erefs_walk {w : World} (a : Option Addr) (cap : Nat) (l : List OpE) (hs : ScriptE w a l) (o : OpE) (hm : o.text.size ≤ maxLen) :
    Calls Tryz.prog 5 #[.slice a l.length cap, .agg o.cells] w fun e w' => e = .returned (.bool true) ∧ Below w.heap.size w w' := by
  unfold OpE.cells
  obtain ⟨W0, hW0⟩ : ∃ W0 : World, W0 = w.alloc (.cells #[.int .i64 o.what, .int .i64 o.a, .int .i64 o.b, .int .i64 o.c, .int .i64 o.n, .string o.text, .string o.more] 29) := ⟨_, rfl⟩
  have hb0 : Below w.heap.size w W0 := by rw [hW0]; exact (Below.refl _ w).alloc (Nat.le_refl _) _
  have hlt0 : w.heap.size < W0.heap.size := by rw [hW0]; simp
  have hop : w.heap.size < W0.heap.size ∧ W0.cell? ⟨w.heap.size, 0, none⟩ = some (.int .i64 o.what) ∧ OpIn o w.heap.size W0 := by
    rw [hW0]
    exact ⟨by simp, by simp, opIn_box' (w := w) o (.int .i64 o.what)⟩
  have HN := hide (new_any W0 W0.heap.size (Nat.le_refl _))
  have HS := hide (hs.below hb0)
  have HB0 := hide hb0
  have HOP := hide hop
  have HM := hide hm
  clear hs hb0 hop hm
  go_enter Tryz.func5, Tryz.ntmps5
  go_wp2_with fail
  rw [← hW0]
  clear hW0
  go_wp2_with (first
    | (go_at_call 7; refine (unhide HN).mono ?_; rintro e w1 ⟨F, rfl, h1, hb1, hF⟩; have HNR := hide (refNew_any w1 W0.heap.size hb1.size); have H1 := hide h1; have HB1 := hide hb1; have HF := hide hF; clear h1 hb1 hF)
    | (go_at_call 8; refine (unhide HNR).mono ?_; rintro e w2 ⟨bR, g, cp, rfl, h2, hb2, hR, hg⟩; have HBo := hide (both_new (unhide H1) (unhide HB1) (unhide HF) h2 hb2 hR hg); clear h2 hb2 hR hg))
  go_loopg [7] l.length (fun k s wx => ∃ (j : Nat) (os : List OneM), s = .int .i64 j ∧ j + k = l.length ∧ Both W0 wx (W0.heap.size + 3) bR os ∧ K0 os)
  case atStart => exact ⟨0, _, rfl, by omega, unhide HBo, k0_new⟩
  case round =>
    obtain ⟨j, os, rfl, hjk, hB, hk0⟩ := hrel
    have HB := hide hB
    have HK0 := hide hk0
    have HBW := hide (show Below W0.heap.size W0 wr by obtain ⟨ns, F0, G0, hp⟩ := hB; exact hp.below)
    clear hB hk0
    by_cases hj : j < l.length
    · have hjz : (j : Int) < (l.length : Int) := by omega
      by_cases h2 : (j : Int) < 200
      · have hx : l[j]? = some l[j] := List.getElem?_eq_getElem hj
        generalize l[j] = o' at hx
        have ht := (unhide HS).text j o' hx
        obtain ⟨b0, off, rfl, d0, d1, d2, d3, d4, d5, d6⟩ := ((unhide HS).below (unhide HBW)).cells j o' hx
        have HPL := hide (eplay_any (unhide HB) (unhide HK0) o' ht)
        have HK1 := hide (k0_step (unhide HK0) o')
        unfold OpE.cells at HPL
        generalize stepE os o' = os5 at HPL HK1
        clear hx ht
        have h3 : decide ((j : Int) < 200) = true := by simpa using h2
        go_wp2_with (first
          | (go_at_call 9; refine (unhide HPL).mono ?_; rintro e w5 ⟨rfl, hB5⟩; have HB5 := hide hB5; clear hB5))
        go_roundg (gk - 1)
        case measure => omega
        case rel => exact ⟨j + 1, os5, by go_num, by omega, unhide HB5, unhide HK1⟩
      · have h3 : decide ((j : Int) < 200) = false := by simpa using h2
        have hCP := copyBoth (unhide HB)
        have HCP := hide hCP
        obtain ⟨hlo, k0, kop⟩ := unhide HOP
        have hlw : w.heap.size < wr.heap.size := Nat.lt_of_lt_of_le hlo (unhide HBW).size
        have x0 := ((unhide HBW).cell (p := ⟨w.heap.size, 0, none⟩) hlo).trans k0
        have xop := kop.below (unhide HBW) hlo
        have XOP := hide xop
        clear hCP xop kop k0
        by_cases c1 : o.what = 1
        · rw [c1] at x0
          go_wp2_with (first
            | (go_at_call 14; refine (unhide HCP).mono ?_; rintro e w5 ⟨rfl, hB5, hb5⟩; have HQ := hide (refsQ hB5 o (unhide HM)).ins; have y0 := (hb5.cell (p := ⟨w.heap.size, 0, none⟩) hlw).trans x0; have yop := (unhide XOP).below hb5 hlw; obtain ⟨y1, y2, y3, y4, y5, y6⟩ := yop; clear hB5 hb5)
            | (go_at_call 15; refine (unhide HQ).mono ?_; rintro e w6 ⟨ev, rfl, hb6, hs6⟩; have HB6 := hide hb6; have HS6 := hide hs6; clear hb6 hs6)
            | (go_at_call 10; refine ((unhide HS6) (by assumption)).mono ?_; rintro e w7 ⟨rfl, hb7⟩; have HB7 := hide hb7; clear hb7))
          all_goals go_ret
          all_goals first | exact ⟨rfl, (unhide HB0).trans ((unhide HB7).mono (unhide HB0).size)⟩ | exact ⟨rfl, (unhide HB0).trans ((unhide HB6).mono (unhide HB0).size)⟩
        · skip
          by_cases c2 : o.what = 2
          · rw [c2] at x0
            go_wp2_with (first
              | (go_at_call 14; refine (unhide HCP).mono ?_; rintro e w5 ⟨rfl, hB5, hb5⟩; have HQ := hide (refsQ hB5 o (unhide HM)).rem; have y0 := (hb5.cell (p := ⟨w.heap.size, 0, none⟩) hlw).trans x0; have yop := (unhide XOP).below hb5 hlw; obtain ⟨y1, y2, y3, y4, y5, y6⟩ := yop; clear hB5 hb5)
              | (go_at_call 16; refine (unhide HQ).mono ?_; rintro e w6 ⟨ev, rfl, hb6, hs6⟩; have HB6 := hide hb6; have HS6 := hide hs6; clear hb6 hs6)
              | (go_at_call 10; refine ((unhide HS6) (by assumption)).mono ?_; rintro e w7 ⟨rfl, hb7⟩; have HB7 := hide hb7; clear hb7))
            all_goals go_ret
            all_goals first | exact ⟨rfl, (unhide HB0).trans ((unhide HB7).mono (unhide HB0).size)⟩ | exact ⟨rfl, (unhide HB0).trans ((unhide HB6).mono (unhide HB0).size)⟩
          · skip
            by_cases c3 : o.what = 3
            · rw [c3] at x0
              go_wp2_with (first
                | (go_at_call 14; refine (unhide HCP).mono ?_; rintro e w5 ⟨rfl, hB5, hb5⟩; have HQ := hide (refsQ hB5 o (unhide HM)).text; have y0 := (hb5.cell (p := ⟨w.heap.size, 0, none⟩) hlw).trans x0; have yop := (unhide XOP).below hb5 hlw; obtain ⟨y1, y2, y3, y4, y5, y6⟩ := yop; clear hB5 hb5)
                | (go_at_call 17; refine (unhide HQ).mono ?_; rintro e w6 ⟨idv, ev, rfl, hb6, hs6⟩; have HB6 := hide hb6; have HS6 := hide hs6; clear hb6 hs6)
                | (go_at_call 10; refine ((unhide HS6) (by assumption)).mono ?_; rintro e w7 ⟨rfl, hb7⟩; have HB7 := hide hb7; clear hb7))
              all_goals go_ret
              all_goals first | exact ⟨rfl, (unhide HB0).trans ((unhide HB7).mono (unhide HB0).size)⟩ | exact ⟨rfl, (unhide HB0).trans ((unhide HB6).mono (unhide HB0).size)⟩
            · skip
              by_cases c4 : o.what = 4
              · rw [c4] at x0
                go_wp2_with (first
                  | (go_at_call 14; refine (unhide HCP).mono ?_; rintro e w5 ⟨rfl, hB5, hb5⟩; have HQ := hide (refsQ hB5 o (unhide HM)).elem; have y0 := (hb5.cell (p := ⟨w.heap.size, 0, none⟩) hlw).trans x0; have yop := (unhide XOP).below hb5 hlw; obtain ⟨y1, y2, y3, y4, y5, y6⟩ := yop; clear hB5 hb5)
                  | (go_at_call 18; refine (unhide HQ).mono ?_; rintro e w6 ⟨idv, ev, rfl, hb6, hs6⟩; have HB6 := hide hb6; have HS6 := hide hs6; clear hb6 hs6)
                  | (go_at_call 10; refine ((unhide HS6) (by assumption)).mono ?_; rintro e w7 ⟨rfl, hb7⟩; have HB7 := hide hb7; clear hb7))
                all_goals go_ret
                all_goals first | exact ⟨rfl, (unhide HB0).trans ((unhide HB7).mono (unhide HB0).size)⟩ | exact ⟨rfl, (unhide HB0).trans ((unhide HB6).mono (unhide HB0).size)⟩
              · skip
                by_cases c5 : o.what = 5
                · rw [c5] at x0
                  go_wp2_with (first
                    | (go_at_call 14; refine (unhide HCP).mono ?_; rintro e w5 ⟨rfl, hB5, hb5⟩; have HQ := hide (refsQ hB5 o (unhide HM)).set; have y0 := (hb5.cell (p := ⟨w.heap.size, 0, none⟩) hlw).trans x0; have yop := (unhide XOP).below hb5 hlw; obtain ⟨y1, y2, y3, y4, y5, y6⟩ := yop; clear hB5 hb5)
                    | (go_at_call 19; refine (unhide HQ).mono ?_; rintro e w6 ⟨ev, rfl, hb6, hs6⟩; have HB6 := hide hb6; have HS6 := hide hs6; clear hb6 hs6)
                    | (go_at_call 10; refine ((unhide HS6) (by assumption)).mono ?_; rintro e w7 ⟨rfl, hb7⟩; have HB7 := hide hb7; clear hb7))
                  all_goals go_ret
                  all_goals first | exact ⟨rfl, (unhide HB0).trans ((unhide HB7).mono (unhide HB0).size)⟩ | exact ⟨rfl, (unhide HB0).trans ((unhide HB6).mono (unhide HB0).size)⟩
                · skip
                  by_cases c6 : o.what = 6
                  · rw [c6] at x0
                    go_wp2_with (first
                      | (go_at_call 14; refine (unhide HCP).mono ?_; rintro e w5 ⟨rfl, hB5, hb5⟩; have HQ := hide (refsQ hB5 o (unhide HM)).del; have y0 := (hb5.cell (p := ⟨w.heap.size, 0, none⟩) hlw).trans x0; have yop := (unhide XOP).below hb5 hlw; obtain ⟨y1, y2, y3, y4, y5, y6⟩ := yop; clear hB5 hb5)
                      | (go_at_call 20; refine (unhide HQ).mono ?_; rintro e w6 ⟨ev, rfl, hb6, hs6⟩; have HB6 := hide hb6; have HS6 := hide hs6; clear hb6 hs6)
                      | (go_at_call 10; refine ((unhide HS6) (by assumption)).mono ?_; rintro e w7 ⟨rfl, hb7⟩; have HB7 := hide hb7; clear hb7))
                    all_goals go_ret
                    all_goals first | exact ⟨rfl, (unhide HB0).trans ((unhide HB7).mono (unhide HB0).size)⟩ | exact ⟨rfl, (unhide HB0).trans ((unhide HB6).mono (unhide HB0).size)⟩
                  · skip
                    have z1 : (o.what == 1) = false := by simpa using c1
                    have z2 : (o.what == 2) = false := by simpa using c2
                    have z3 : (o.what == 3) = false := by simpa using c3
                    have z4 : (o.what == 4) = false := by simpa using c4
                    have z5 : (o.what == 5) = false := by simpa using c5
                    have z6 : (o.what == 6) = false := by simpa using c6
                    go_wp2_with (first
                      | (go_at_call 14; refine (unhide HCP).mono ?_; rintro e w5 ⟨rfl, hB5, hb5⟩; have HQ := hide (refsQ hB5 o (unhide HM)).data; have y0 := (hb5.cell (p := ⟨w.heap.size, 0, none⟩) hlw).trans x0; have yop := (unhide XOP).below hb5 hlw; obtain ⟨y1, y2, y3, y4, y5, y6⟩ := yop; clear hB5 hb5)
                      | (go_at_call 21; refine (unhide HQ).mono ?_; rintro e w6 ⟨ev, rfl, hb6, hs6⟩; have HB6 := hide hb6; have HS6 := hide hs6; clear hb6 hs6)
                      | (go_at_call 10; refine ((unhide HS6) (by assumption)).mono ?_; rintro e w7 ⟨rfl, hb7⟩; have HB7 := hide hb7; clear hb7))
                    all_goals go_ret
                    all_goals first | exact ⟨rfl, (unhide HB0).trans ((unhide HB7).mono (unhide HB0).size)⟩ | exact ⟨rfl, (unhide HB0).trans ((unhide HB6).mono (unhide HB0).size)⟩
    · have hjz : ¬ (j : Int) < (l.length : Int) := by omega
      have hCP := copyBoth (unhide HB)
      have HCP := hide hCP
      obtain ⟨hlo, k0, kop⟩ := unhide HOP
      have hlw : w.heap.size < wr.heap.size := Nat.lt_of_lt_of_le hlo (unhide HBW).size
      have x0 := ((unhide HBW).cell (p := ⟨w.heap.size, 0, none⟩) hlo).trans k0
      have xop := kop.below (unhide HBW) hlo
      have XOP := hide xop
      clear hCP xop kop k0
      by_cases c1 : o.what = 1
      · rw [c1] at x0
        go_wp2_with (first
          | (go_at_call 14; refine (unhide HCP).mono ?_; rintro e w5 ⟨rfl, hB5, hb5⟩; have HQ := hide (refsQ hB5 o (unhide HM)).ins; have y0 := (hb5.cell (p := ⟨w.heap.size, 0, none⟩) hlw).trans x0; have yop := (unhide XOP).below hb5 hlw; obtain ⟨y1, y2, y3, y4, y5, y6⟩ := yop; clear hB5 hb5)
          | (go_at_call 15; refine (unhide HQ).mono ?_; rintro e w6 ⟨ev, rfl, hb6, hs6⟩; have HB6 := hide hb6; have HS6 := hide hs6; clear hb6 hs6)
          | (go_at_call 10; refine ((unhide HS6) (by assumption)).mono ?_; rintro e w7 ⟨rfl, hb7⟩; have HB7 := hide hb7; clear hb7))
        all_goals go_ret
        all_goals first | exact ⟨rfl, (unhide HB0).trans ((unhide HB7).mono (unhide HB0).size)⟩ | exact ⟨rfl, (unhide HB0).trans ((unhide HB6).mono (unhide HB0).size)⟩
      · skip
        by_cases c2 : o.what = 2
        · rw [c2] at x0
          go_wp2_with (first
            | (go_at_call 14; refine (unhide HCP).mono ?_; rintro e w5 ⟨rfl, hB5, hb5⟩; have HQ := hide (refsQ hB5 o (unhide HM)).rem; have y0 := (hb5.cell (p := ⟨w.heap.size, 0, none⟩) hlw).trans x0; have yop := (unhide XOP).below hb5 hlw; obtain ⟨y1, y2, y3, y4, y5, y6⟩ := yop; clear hB5 hb5)
            | (go_at_call 16; refine (unhide HQ).mono ?_; rintro e w6 ⟨ev, rfl, hb6, hs6⟩; have HB6 := hide hb6; have HS6 := hide hs6; clear hb6 hs6)
            | (go_at_call 10; refine ((unhide HS6) (by assumption)).mono ?_; rintro e w7 ⟨rfl, hb7⟩; have HB7 := hide hb7; clear hb7))
          all_goals go_ret
          all_goals first | exact ⟨rfl, (unhide HB0).trans ((unhide HB7).mono (unhide HB0).size)⟩ | exact ⟨rfl, (unhide HB0).trans ((unhide HB6).mono (unhide HB0).size)⟩
        · skip
          by_cases c3 : o.what = 3
          · rw [c3] at x0
            go_wp2_with (first
              | (go_at_call 14; refine (unhide HCP).mono ?_; rintro e w5 ⟨rfl, hB5, hb5⟩; have HQ := hide (refsQ hB5 o (unhide HM)).text; have y0 := (hb5.cell (p := ⟨w.heap.size, 0, none⟩) hlw).trans x0; have yop := (unhide XOP).below hb5 hlw; obtain ⟨y1, y2, y3, y4, y5, y6⟩ := yop; clear hB5 hb5)
              | (go_at_call 17; refine (unhide HQ).mono ?_; rintro e w6 ⟨idv, ev, rfl, hb6, hs6⟩; have HB6 := hide hb6; have HS6 := hide hs6; clear hb6 hs6)
              | (go_at_call 10; refine ((unhide HS6) (by assumption)).mono ?_; rintro e w7 ⟨rfl, hb7⟩; have HB7 := hide hb7; clear hb7))
            all_goals go_ret
            all_goals first | exact ⟨rfl, (unhide HB0).trans ((unhide HB7).mono (unhide HB0).size)⟩ | exact ⟨rfl, (unhide HB0).trans ((unhide HB6).mono (unhide HB0).size)⟩
          · skip
            by_cases c4 : o.what = 4
            · rw [c4] at x0
              go_wp2_with (first
                | (go_at_call 14; refine (unhide HCP).mono ?_; rintro e w5 ⟨rfl, hB5, hb5⟩; have HQ := hide (refsQ hB5 o (unhide HM)).elem; have y0 := (hb5.cell (p := ⟨w.heap.size, 0, none⟩) hlw).trans x0; have yop := (unhide XOP).below hb5 hlw; obtain ⟨y1, y2, y3, y4, y5, y6⟩ := yop; clear hB5 hb5)
                | (go_at_call 18; refine (unhide HQ).mono ?_; rintro e w6 ⟨idv, ev, rfl, hb6, hs6⟩; have HB6 := hide hb6; have HS6 := hide hs6; clear hb6 hs6)
                | (go_at_call 10; refine ((unhide HS6) (by assumption)).mono ?_; rintro e w7 ⟨rfl, hb7⟩; have HB7 := hide hb7; clear hb7))
              all_goals go_ret
              all_goals first | exact ⟨rfl, (unhide HB0).trans ((unhide HB7).mono (unhide HB0).size)⟩ | exact ⟨rfl, (unhide HB0).trans ((unhide HB6).mono (unhide HB0).size)⟩
            · skip
              by_cases c5 : o.what = 5
              · rw [c5] at x0
                go_wp2_with (first
                  | (go_at_call 14; refine (unhide HCP).mono ?_; rintro e w5 ⟨rfl, hB5, hb5⟩; have HQ := hide (refsQ hB5 o (unhide HM)).set; have y0 := (hb5.cell (p := ⟨w.heap.size, 0, none⟩) hlw).trans x0; have yop := (unhide XOP).below hb5 hlw; obtain ⟨y1, y2, y3, y4, y5, y6⟩ := yop; clear hB5 hb5)
                  | (go_at_call 19; refine (unhide HQ).mono ?_; rintro e w6 ⟨ev, rfl, hb6, hs6⟩; have HB6 := hide hb6; have HS6 := hide hs6; clear hb6 hs6)
                  | (go_at_call 10; refine ((unhide HS6) (by assumption)).mono ?_; rintro e w7 ⟨rfl, hb7⟩; have HB7 := hide hb7; clear hb7))
                all_goals go_ret
                all_goals first | exact ⟨rfl, (unhide HB0).trans ((unhide HB7).mono (unhide HB0).size)⟩ | exact ⟨rfl, (unhide HB0).trans ((unhide HB6).mono (unhide HB0).size)⟩
              · skip
                by_cases c6 : o.what = 6
                · rw [c6] at x0
                  go_wp2_with (first
                    | (go_at_call 14; refine (unhide HCP).mono ?_; rintro e w5 ⟨rfl, hB5, hb5⟩; have HQ := hide (refsQ hB5 o (unhide HM)).del; have y0 := (hb5.cell (p := ⟨w.heap.size, 0, none⟩) hlw).trans x0; have yop := (unhide XOP).below hb5 hlw; obtain ⟨y1, y2, y3, y4, y5, y6⟩ := yop; clear hB5 hb5)
                    | (go_at_call 20; refine (unhide HQ).mono ?_; rintro e w6 ⟨ev, rfl, hb6, hs6⟩; have HB6 := hide hb6; have HS6 := hide hs6; clear hb6 hs6)
                    | (go_at_call 10; refine ((unhide HS6) (by assumption)).mono ?_; rintro e w7 ⟨rfl, hb7⟩; have HB7 := hide hb7; clear hb7))
                  all_goals go_ret
                  all_goals first | exact ⟨rfl, (unhide HB0).trans ((unhide HB7).mono (unhide HB0).size)⟩ | exact ⟨rfl, (unhide HB0).trans ((unhide HB6).mono (unhide HB0).size)⟩
                · skip
                  have z1 : (o.what == 1) = false := by simpa using c1
                  have z2 : (o.what == 2) = false := by simpa using c2
                  have z3 : (o.what == 3) = false := by simpa using c3
                  have z4 : (o.what == 4) = false := by simpa using c4
                  have z5 : (o.what == 5) = false := by simpa using c5
                  have z6 : (o.what == 6) = false := by simpa using c6
                  go_wp2_with (first
                    | (go_at_call 14; refine (unhide HCP).mono ?_; rintro e w5 ⟨rfl, hB5, hb5⟩; have HQ := hide (refsQ hB5 o (unhide HM)).data; have y0 := (hb5.cell (p := ⟨w.heap.size, 0, none⟩) hlw).trans x0; have yop := (unhide XOP).below hb5 hlw; obtain ⟨y1, y2, y3, y4, y5, y6⟩ := yop; clear hB5 hb5)
                    | (go_at_call 21; refine (unhide HQ).mono ?_; rintro e w6 ⟨ev, rfl, hb6, hs6⟩; have HB6 := hide hb6; have HS6 := hide hs6; clear hb6 hs6)
                    | (go_at_call 10; refine ((unhide HS6) (by assumption)).mono ?_; rintro e w7 ⟨rfl, hb7⟩; have HB7 := hide hb7; clear hb7))
                  all_goals go_ret
                  all_goals first | exact ⟨rfl, (unhide HB0).trans ((unhide HB7).mono (unhide HB0).size)⟩ | exact ⟨rfl, (unhide HB0).trans ((unhide HB6).mono (unhide HB0).size)⟩
end Go.Proofs.YtnclnijlpchdnaaGreat

namespace Go.Proofs.YtnclnijlpchdnaaGreat.editRefuses
open Go.ChangeShapes Go.WideShapes Go.ChangeAt Go.RowKit
open Go.ChangeMaps (open_string shut_string)

theorem own : ownKnob Tryz.prog.godebug = none := by kernel_rfl
theorem laidOut : laidOutB Tryz.prog = true := by kernel_rfl

set_option maxRecDepth 100000 in
theorem lifted (os : Os) (started : os.Started) (H : Type) (enc : TypeId × Value → H) :
    ReturnsInHanded {} Tryz.checked os 5 .any (Rows.editRefusesSpec.pre6 enc Tryz.prog Tryz.f5 Rows.editRefusesRow.domain false) (Rows.editRefusesSpec.post enc Tryz.prog Tryz.f5 false true false false) := by
  refine returnsInHanded_of_change_sized (C := Tryz.checked) own started (by kernel_rfl) Tryz.func5
    (ChangeSpec.witness6 (enc := enc) (C := Tryz.checked) false ⟨#[], #[.slice none 0 0, .agg #[.int .i64 0, .int .i64 0, .int .i64 0, .int .i64 0, .int .i64 0, .string ⟨#[]⟩, .string ⟨#[]⟩]], []⟩ 8 (by kernel_rfl) (by kernel_rfl) (by kernel_rfl) (by kernel_rfl)) ?_
  intro W base args ds gs before hval0 hW hcnd hsz0 _
  have hval : ∀ (j : Nat) t v, Tryz.f5.params[j]? = some t → args[j]? = some v → Value.okWide Tryz.prog W .any base t v := hval0
  have hW' := hW
  obtain ⟨p, q, hA0, hV, rfl, hfz, hnd⟩ := hW
  have hA : DataW.TrodAll enc Tryz.prog W 0 (fun _ => true) true Tryz.f5.params.toList args.toList ds p := hA0
  rw [Tryz.params5] at hA hval
  obtain ⟨v0, vs0, d0, ds0, p0, q0, hargs, rfl, rfl, h0, r0⟩ := trodAll_cons hA
  obtain ⟨v1, vs1, d1, ds1, p1, q1, hargs1, rfl, rfl, h1, r1⟩ := trodAll_cons r0
  obtain ⟨rfl, rfl, rfl⟩ := trodAll_nil r1
  obtain rfl : args = #[v0, v1] := by cases args; simp_all
  obtain ⟨rfl, rfl⟩ := trodVars_none hV
  obtain ⟨a0, len0, cap0, rfl⟩ := okWide_slice Tryz.underlying22 (hval 0 22 v0 rfl rfl)
  obtain ⟨cs1, rfl, _⟩ := okWide_struct Tryz.underlying29 (hval 1 29 v1 rfl rfl)
  have k0 := h0
  have k1 := h1
  have lt0 : ∀ x ∈ p0, x.block < W.heap.size := by obtain ⟨m, hm⟩ := k0; exact DataW.trod_lt m _ _ _ hm
  have lt1 : ∀ x ∈ p1, x.block < W.heap.size := by obtain ⟨m, hm⟩ := k1; exact DataW.trod_lt m _ _ _ hm
  obtain ⟨l, rfl, hl, _⟩ := scriptE_open h0
  obtain ⟨o, rfl, hm⟩ : ∃ o : OpE, cs1 = o.cells ∧ o.text.size ≤ maxLen := by
    obtain ⟨fuel, hf⟩ := h1
    obtain ⟨o, e, hm⟩ := op_cells hf
    refine ⟨o, ?_, hm⟩
    have : cs1.toList = o.cells.toList := by simpa [Value.cells] using e
    exact Array.toList_inj.1 this
  clear hA0 hval0
  refine (erefs_walk a0 cap0 l hl o hm).mono fun e W' ⟨he, bel⟩ => ?_
  subst he
  exact ⟨_, rfl, _, _, _, [], _, [], hW', trodAll_mk1 (shut_bool Tryz.underlying4 _), (trodAll_cons_mk (Below.trod laidOut (by kernel_rfl) (of_decide_eq_true (by kernel_rfl)) k0 bel lt0) (trodAll_cons_mk (Below.trod laidOut (by kernel_rfl) (of_decide_eq_true (by kernel_rfl)) k1 bel lt1) trodAll_mk0)), rfl, bel.frame _, fun h => by cases h⟩

theorem over : Rows.editRefusesRow.holds Tryz.pinned (OpenSpec.ofChange Rows.editRefusesSpec) :=
  OpenClaim.holds_of_wide 5 Tryz.f5 rfl rfl rfl rfl rfl rfl rfl ⟨rfl, rfl, rfl, rfl, rfl⟩ rfl rfl rfl rfl rfl (by kernel_rfl) Tryz.func5 (by kernel_rfl)
    (of_decide_eq_true (by kernel_rfl)) (by unfold Func.isWrapper; first | (rw [if_pos (by decide +kernel)]; kernel_rfl) | (rw [if_neg (by decide +kernel)]; exact ⟨rfl, rfl⟩))
    (fun os started H enc _ => lifted os started H enc)

end Go.Proofs.YtnclnijlpchdnaaGreat.editRefuses
namespace Go.Proofs.YtnclnijlpchdnaaGreat
theorem editRefuses_holds : Rows.EditRefusesSaid := editRefuses.over
end Go.Proofs.YtnclnijlpchdnaaGreat
