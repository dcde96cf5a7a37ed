/-
  Proved: under any script of changes both arenas answer the same and tell the same of all nodes: EditPlays returns true for every script, and changes nothing. Conditions: none beyond the given row's own.
-/
import Derived.Test.YtnclnijlpchdnaaGreatE7
import Derived.Deep.LoopGhost
import Derived.Deep.QuietTactic
import Derived.BigQuiet
import Derived.Deep.RegionWith
namespace Go.Proofs.YtnclnijlpchdnaaGreat
open Go.RowKit

/-- What both tell of a node. -/
def toldV (t : NodeM) (a : Option Addr) (c : Nat) : Value := .agg #[.int .i64 t.kind, .int .i64 t.space, .string t.name, .slice a t.attrs.length c, .string t.data, .string t.system, .int .i64 t.parent, .int .i64 t.first, .int .i64 t.last, .int .i64 t.prev, .int .i64 t.next, .int .i64 t.inner]

structure TellQ (w : World) (bA bR : Nat) (os : List OneM) (g cap : Nat) : Prop where
  prog : ∀ W (i : Nat) o, Below w.heap.size w W → os[i]? = some o → Calls Tryz.prog 12 #[.pointer (some ⟨bA, 0, none⟩), .int .i64 i] W fun e w' => ∃ a c, e = .returned (.tuple #[toldV (tellN os i o) a c, .int .i64 0]) ∧ AttrsIn w' a o.attrs ∧ Below W.heap.size W w'
  ref : ∀ W (i : Nat) o, Below w.heap.size w W → os[i]? = some o → Calls Tryz.prog 33 #[.pointer (some ⟨bR, 0, none⟩), .int .i64 i] W fun e w' => ∃ a c, e = .returned (.tuple #[toldV (tellN os i o) a c, .int .i64 0]) ∧ AttrsIn w' a o.attrs ∧ Below W.heap.size W w'
  len : ∀ W, Below w.heap.size w W → Calls Tryz.prog 34 #[.pointer (some ⟨bA, 0, none⟩)] W fun e w' => e = .returned (.int .i64 os.length) ∧ W = w'
  row : ∀ W, Below w.heap.size w W → W.cell? ⟨bR, 0, none⟩ = some (.slice (some ⟨g, 0, none⟩) os.length cap)
  few : ∀ (i : Nat) o, os[i]? = some o → o.attrs.length ≤ 1024
  most : os.length ≤ 32768

theorem tellQ {w0 w : World} {bA bR : Nat} {os : List OneM} (h : Both w0 w bA bR os) : ∃ g cap, TellQ w bA bR os g cap := by
  obtain ⟨ns, F, G, hp⟩ := h
  obtain ⟨g, cap, hN⟩ := nodesAt hp.rf
  refine ⟨g, cap, fun W i o hW ho => ?_, fun W i o hW ho => ?_, fun W hW => lenO (hp.more hW).ar hp.sim, fun W hW => (hN W hW).row, fun i o ho => ?_, (hN w (Below.refl _ _)).most⟩
  · obtain ⟨n, hn, sm⟩ := hp.sim.get ho
    have ht := hp.sim.tell hn ho
    refine (node_in (hp.more hW).ar i n hn).mono fun e w' ⟨ao, cp, h1, h2, h3, _⟩ => ?_
    obtain ⟨a', c', e1, hin⟩ := ownsRow_attrs h2
    simp at e1
    obtain ⟨rfl, rfl⟩ := e1
    have ha : n.attrs = o.attrs := by rw [ht]; rfl
    refine ⟨ao, cp, ?_, ha ▸ hin, h3⟩
    rw [h1, ht]
    rfl
  · obtain ⟨g', cap', rs, h, rfl, _⟩ := (hp.more hW).rf
    obtain ⟨r, hr, rfl⟩ := osOf_back ho
    refine (refNode_in h hp.sim i r hr).mono fun e w' ⟨na, nc, h1, h2, h3⟩ => ?_
    exact ⟨na, nc, h1, h2, h3⟩
  · obtain ⟨n, hn, sm⟩ := hp.sim.get ho
    have ht := hp.sim.tell hn ho
    obtain ⟨bS, g, cap, h, _⟩ := hp.ar
    have := h.few i n hn
    rw [ht] at this
    exact this

section
variable {w : World} {bA bR g cap : Nat} {os : List OneM}
set_option maxRecDepth 100000 in
set_option maxHeartbeats 8000000 in
theorem same2_any (hQ : TellQ w bA bR os g cap) :
    Calls Tryz.prog 10 #[.pointer (some ⟨bA, 0, none⟩), .pointer (some ⟨bR, 0, none⟩)] w fun e w' => e = .returned (.bool true) ∧ Below w.heap.size w w' := by
  have HQ := hide hQ
  have hmost := hQ.most
  obtain ⟨n, hn⟩ : ∃ n, os.length = n := ⟨_, rfl⟩
  rw [hn] at hmost
  have HN := hide hn
  clear hQ hn
  go_enter Tryz.func10, Tryz.ntmps10
  go_wp2
  go_loopg [5] n (fun k s wx => ∃ j : Nat, s = .int .i64 j ∧ j + k = n ∧ Below w.heap.size w wx)
  case atStart => exact ⟨0, rfl, by omega, Below.refl _ _⟩
  case round =>
    obtain ⟨j, rfl, hjk, hb⟩ := hrel
    have r0 := (unhide HQ).row _ hb
    rw [unhide HN] at r0
    have HB := hide hb
    clear hb
    by_cases hj : j < n
    · have hjz : (j : Int) < (n : Int) := by omega
      obtain ⟨o, ho⟩ : ∃ o, os[j]? = some o := ⟨_, List.getElem?_eq_getElem (by rw [unhide HN]; exact hj)⟩
      have HO := hide ho
      have HF := hide ((unhide HQ).few j o ho)
      clear ho
      obtain ⟨t, ht⟩ : ∃ t, tellN os j o = t := ⟨_, rfl⟩
      have HT := hide ht
      have hat : o.attrs = t.attrs := by rw [← ht]; rfl
      have HAT := hide hat
      clear ht hat
      go_wp2_with (first
        | (go_at_call 12; refine ((unhide HQ).prog _ j o (unhide HB) (unhide HO)).mono ?_; rw [unhide HT]; rintro e w1 ⟨ax, cx, rfl, hax, hb1⟩; have HB1 := hide ((unhide HB).trans (hb1.mono (unhide HB).size)); have HAX := hide hax; clear hax hb1; unfold toldV))
      have hb1' := (unhide HB1).alloc (unhide HB1).size (.cells #[.int .i64 t.kind, .int .i64 t.space, .string t.name, .slice ax t.attrs.length cx, .string t.data, .string t.system, .int .i64 t.parent, .int .i64 t.first, .int .i64 t.last, .int .i64 t.prev, .int .i64 t.next, .int .i64 t.inner] 36)
      refine ((unhide HQ).ref _ j o hb1' (unhide HO)).mono ?_
      rw [unhide HT]
      rintro e w2 ⟨ay, cy, rfl, hay, hb2⟩
      have x0 := (bcell hb2).1 w1.heap.size 0 (by simp)
      have x2 := (bcell hb2).1 w1.heap.size 2 (by simp)
      have x3 := (bcell hb2).1 w1.heap.size 3 (by simp)
      have x4 := (bcell hb2).1 w1.heap.size 4 (by simp)
      have x6 := (bcell hb2).1 w1.heap.size 6 (by simp)
      have x7 := (bcell hb2).1 w1.heap.size 7 (by simp)
      have x10 := (bcell hb2).1 w1.heap.size 10 (by simp)
      simp at x0 x2 x3 x4 x6 x7 x10
      have hl12 : w1.heap.size < w2.heap.size := Nat.lt_of_lt_of_le (by simp) hb2.size
      have hlne : ¬ w1.heap.size = w2.heap.size := by omega
      have HB2 := hide (hb1'.trans (hb2.mono hb1'.size))
      have HAX2 : Hid (AttrsIn w2 ax t.attrs) := hide (by rw [← unhide HAT]; exact ((unhide HAX).below ((Below.refl _ _).alloc (Nat.le_refl _) _)).below hb2)
      have HAY : Hid (AttrsIn w2 ay t.attrs) := hide (by rw [← unhide HAT]; exact hay)
      have HF2 : Hid (t.attrs.length ≤ 1024) := hide (by rw [← unhide HAT]; exact unhide HF)
      clear hb1' hb2 hay
      unfold toldV
      go_wp2
      obtain ⟨gk0, hgk0⟩ : ∃ x, x = gk := ⟨_, rfl⟩
      have HGK := hide hgk0
      have HJK := hide hjk
      clear hgk0 hjk
      go_loopg [10] t.attrs.length (fun k s wx => ∃ m : Nat, s = .int .i64 m ∧ m + k = t.attrs.length ∧ Below w.heap.size w wx ∧ wx.cell? ⟨w1.heap.size, 3, none⟩ = some (.slice ax t.attrs.length cx) ∧ wx.cell? ⟨w2.heap.size, 3, none⟩ = some (.slice ay t.attrs.length cy) ∧ AttrsIn wx ax t.attrs ∧ AttrsIn wx ay t.attrs)
      case atStart => exact ⟨0, rfl, by omega, (unhide HB2).alloc (unhide HB2).size _, by first | (rw [((Below.refl _ w2).alloc (Nat.le_refl _) _).cell hl12]; exact x3) | exact x3 | simp, by simp, (unhide HAX2).below ((Below.refl _ _).alloc (Nat.le_refl _) _), (unhide HAY).below ((Below.refl _ _).alloc (Nat.le_refl _) _)⟩
      case round =>
        obtain ⟨m, rfl, hmk, hbw, k1, k2, hax, hay⟩ := hrel
        have hfew := unhide HF2
        have HBW := hide hbw
        have HAXW := hide hax
        have HAYW := hide hay
        by_cases hm : m < t.attrs.length
        · have hx : t.attrs[m]? = some t.attrs[m] := List.getElem?_eq_getElem hm
          have hmz : (m : Int) < (t.attrs.length : Int) := by omega
          obtain ⟨ba, oa, rfl, a0, a1, a2, a3⟩ := hax.cells m _ hx
          obtain ⟨bb, ob, rfl, b0, b1, b2, b3⟩ := hay.cells m _ hx
          generalize t.attrs[m] = x at a0 a1 a2 a3 b0 b1 b2 b3 hx
          clear hx hbw hax hay
          go_wp2
          go_quiet (fail)
          go_wp2
          go_roundg (gk - 1)
          case measure => omega
          case rel => exact ⟨m + 1, by go_num, by omega, below_dn (unhide HBW) _, by simpa using k1, by simpa using k2, (unhide HAXW).below (below_dn (Below.refl _ _) _), (unhide HAYW).below (below_dn (Below.refl _ _) _)⟩
        · have hmz : ¬ (m : Int) < (t.attrs.length : Int) := by omega
          clear hbw hax hay
          go_wp2
          go_roundg (gk0 - 1)
          case measure => have := unhide HGK; have := unhide HJK; omega
          case rel => exact ⟨j + 1, by go_num, by have := unhide HGK; have := unhide HJK; omega, unhide HBW⟩
    · have hjz : ¬ (j : Int) < (n : Int) := by omega
      have HL := hide ((unhide HQ).len _ (unhide HB).drew)
      rw [unhide HN] at HL
      have hnn : ((n : Int) == (n : Int)) = true := by simp
      go_wp2_with fail
      go_region_with (go_at_call 34; refine (unhide HL).mono ?_; rintro e w3 ⟨rfl, rfl⟩)
      all_goals go_wp2
      all_goals go_ret
      all_goals first | exact ⟨rfl, (unhide HB).drew⟩ | exact ⟨by simp, (unhide HB).drew⟩ | exact ⟨rfl, unhide HB⟩
end
end Go.Proofs.YtnclnijlpchdnaaGreat

namespace Go.Proofs.YtnclnijlpchdnaaGreat
open Go.RowKit

theorem k0_new : K0 [oneM 0] := by
  intro i hi
  match i, hi with
  | 0, _ => rfl
  | i + 1, hi => simp [kindO] at hi

set_option maxRecDepth 100000 in
set_option maxHeartbeats 4000000 in
theorem eplays_walk {w : World} (a : Option Addr) (cap : Nat) (l : List OpE) (hs : ScriptE w a l) (hn : l.length ≤ maxLen) :
    Calls Tryz.prog 3 #[.slice a l.length cap] w fun e w' => e = .returned (.bool true) ∧ Below w.heap.size w w' := by
  have HN := hide (new_any w w.heap.size (Nat.le_refl _))
  have HS := hide hs
  unfold maxLen at hn
  clear hs
  go_enter Tryz.func3, Tryz.ntmps3
  go_wp2_with (first
    | (go_at_call 7; refine (unhide HN).mono ?_; rintro e w1 ⟨F, rfl, h1, hb1, hF⟩; have HNR := hide (refNew_any w1 w.heap.size hb1.size); have H1 := hide h1; have HB1 := hide hb1; have HF := hide hF; clear h1 hb1 hF)
    | (go_at_call 8; refine (unhide HNR).mono ?_; rintro e w2 ⟨bR, g, cp, rfl, h2, hb2, hR, hg⟩; have HBo := hide (both_new (unhide H1) (unhide HB1) (unhide HF) h2 hb2 hR hg); clear h2 hb2 hR hg))
  go_loopg [5] l.length (fun k s wx => ∃ (j : Nat) (os : List OneM), s = .int .i64 j ∧ j + k = l.length ∧ Both w wx (w.heap.size + 3) bR os ∧ K0 os)
  case atStart => exact ⟨0, _, rfl, by omega, unhide HBo, k0_new⟩
  case round =>
    obtain ⟨j, os, rfl, hjk, hB, hk0⟩ := hrel
    have HB := hide hB
    have HK0 := hide hk0
    have HBW := hide (show Below w.heap.size w wr by obtain ⟨ns, F0, G0, hp⟩ := hB; exact hp.below)
    clear hB hk0
    by_cases hj : j < l.length
    · have hx : l[j]? = some l[j] := List.getElem?_eq_getElem hj
      generalize l[j] = o at hx
      have hjz : (j : Int) < (l.length : Int) := by omega
      have ht := (unhide HS).text j o hx
      obtain ⟨b, off, rfl, d0, d1, d2, d3, d4, d5, d6⟩ := ((unhide HS).below (unhide HBW)).cells j o hx
      have HPL := hide (eplay_any (unhide HB) (unhide HK0) o ht)
      have HK1 := hide (k0_step (unhide HK0) o)
      unfold OpE.cells at HPL
      generalize stepE os o = os5 at HPL HK1
      have HSA : Hid (∀ W, Both w W (w.heap.size + 3) bR os5 → Calls Tryz.prog 10 #[.pointer (some ⟨w.heap.size + 3, 0, none⟩), .pointer (some ⟨bR, 0, none⟩)] W fun e w' => e = .returned (.bool true) ∧ Below W.heap.size W w') := hide (fun W hW => by obtain ⟨g', cap', hQ⟩ := tellQ hW; exact same2_any hQ)
      clear hx ht
      by_cases h2 : (j : Int) < 200
      · have h3 : decide ((j : Int) < 200) = true := by simpa using h2
        go_wp2_with (first
          | (go_at_call 9; refine (unhide HPL).mono ?_; rintro e w5 ⟨rfl, hB5⟩; have HB5 := hide hB5; clear hB5)
          | (go_at_call 10; refine ((unhide HSA) _ (unhide HB5)).mono ?_; rintro e w6 ⟨rfl, hb6⟩; have HB6 := hide ((unhide HB5).more hb6); clear hb6))
        go_roundg (gk - 1)
        case measure => omega
        case rel => exact ⟨j + 1, os5, by go_num, by omega, unhide HB6, unhide HK1⟩
      · have h3 : decide ((j : Int) < 200) = false := by simpa using h2
        go_wp2_with (first
          | (go_at_call 9; refine (unhide HPL).mono ?_; rintro e w5 ⟨rfl, hB5⟩; have HB5 := hide hB5; clear hB5)
          | (go_at_call 10; refine ((unhide HSA) _ (unhide HB5)).mono ?_; rintro e w6 ⟨rfl, hb6⟩; have HB6 := hide ((unhide HB5).more hb6); clear hb6))
        go_roundg (gk - 1)
        case measure => omega
        case rel => exact ⟨j + 1, os5, by go_num, by omega, unhide HB5, unhide HK1⟩
    · have hjz : ¬ (j : Int) < (l.length : Int) := by omega
      obtain ⟨g', cap', hQ⟩ := tellQ (unhide HB)
      have HSB := hide (same2_any hQ)
      clear hQ
      go_wp2_with (first
        | (go_at_call 10; refine (unhide HSB).mono ?_; rintro e w6 ⟨rfl, hb6⟩; have HB6 := hide hb6; clear hb6))
      go_ret
      exact ⟨rfl, (unhide HBW).trans ((unhide HB6).mono (unhide HBW).size)⟩
end Go.Proofs.YtnclnijlpchdnaaGreat

namespace Go.Proofs.YtnclnijlpchdnaaGreat.editPlays
open Go.ChangeShapes Go.WideShapes Go.ChangeAt Go.RowKit
open Go.ChangeMaps (open_string shut_string)

theorem own : ownKnob Tryz.prog.godebug = none := by kernel_rfl
theorem laidOut : laidOutB Tryz.prog = true := by kernel_rfl

set_option maxRecDepth 100000 in
theorem lifted (os : Os) (started : os.Started) (H : Type) (enc : TypeId × Value → H) :
    ReturnsInHanded {} Tryz.checked os 3 .any (Rows.editPlaysSpec.pre6 enc Tryz.prog Tryz.f3 Rows.editPlaysRow.domain false) (Rows.editPlaysSpec.post enc Tryz.prog Tryz.f3 false true false false) := by
  refine returnsInHanded_of_change_sized (C := Tryz.checked) own started (by kernel_rfl) Tryz.func3
    (ChangeSpec.witness6 (enc := enc) (C := Tryz.checked) false ⟨#[], #[.slice none 0 0], []⟩ 8 (by kernel_rfl) (by kernel_rfl) (by kernel_rfl) (by kernel_rfl)) ?_
  intro W base args ds gs before hval0 hW hcnd hsz0 _
  have hval : ∀ (j : Nat) t v, Tryz.f3.params[j]? = some t → args[j]? = some v → Value.okWide Tryz.prog W .any base t v := hval0
  have hW' := hW
  obtain ⟨p, q, hA0, hV, rfl, hfz, hnd⟩ := hW
  have hA : DataW.TrodAll enc Tryz.prog W 0 (fun _ => true) true Tryz.f3.params.toList args.toList ds p := hA0
  rw [Tryz.params3] at hA hval
  obtain ⟨v0, vs0, d0, ds0, p0, q0, hargs, rfl, rfl, h0, r0⟩ := trodAll_cons hA
  obtain ⟨rfl, rfl, rfl⟩ := trodAll_nil r0
  obtain rfl : args = #[v0] := by cases args; simp_all
  obtain ⟨rfl, rfl⟩ := trodVars_none hV
  obtain ⟨a0, len0, cap0, rfl⟩ := okWide_slice Tryz.underlying22 (hval 0 22 v0 rfl rfl)
  have k0 := h0
  have lt0 : ∀ x ∈ p0, x.block < W.heap.size := by obtain ⟨m, hm⟩ := k0; exact DataW.trod_lt m _ _ _ hm
  obtain ⟨l, rfl, hl, hn⟩ := scriptE_open h0
  clear hA0 hval0
  refine (eplays_walk a0 cap0 l hl hn).mono fun e W' ⟨he, bel⟩ => ?_
  subst he
  exact ⟨_, rfl, _, _, _, [], _, [], hW', trodAll_mk1 (shut_bool Tryz.underlying4 _), (trodAll_cons_mk (Below.trod laidOut (by kernel_rfl) (of_decide_eq_true (by kernel_rfl)) k0 bel lt0) trodAll_mk0), rfl, bel.frame _, fun h => by cases h⟩

theorem over : Rows.editPlaysRow.holds Tryz.pinned (OpenSpec.ofChange Rows.editPlaysSpec) :=
  OpenClaim.holds_of_wide 3 Tryz.f3 rfl rfl rfl rfl rfl rfl rfl ⟨rfl, rfl, rfl, rfl, rfl⟩ rfl rfl rfl rfl rfl (by kernel_rfl) Tryz.func3 (by kernel_rfl)
    (of_decide_eq_true (by kernel_rfl)) (by unfold Func.isWrapper; first | (rw [if_pos (by decide +kernel)]; kernel_rfl) | (rw [if_neg (by decide +kernel)]; exact ⟨rfl, rfl⟩))
    (fun os started H enc _ => lifted os started H enc)

end Go.Proofs.YtnclnijlpchdnaaGreat.editPlays
namespace Go.Proofs.YtnclnijlpchdnaaGreat
theorem editPlays_holds : Rows.EditPlaysSaid := editPlays.over
end Go.Proofs.YtnclnijlpchdnaaGreat
