/-
  Proved: a node that is no fragment, and that was put in, is a child of that parent, ahead of that child, or the last one: EditMoves returns true for every script and every three numbers, and changes nothing. Conditions: none beyond the given row's own.
-/
import Derived.Test.YtnclnijlpchdnaaGreatE7
import Derived.Deep.LoopGhost
import Derived.Deep.QuietTactic
import Derived.BigQuiet
import Derived.Deep.RegionWith
namespace Go.Proofs.YtnclnijlpchdnaaGreat
open Go.RowKit

/-- What both tell of a node. -/
def toldV (t : NodeM) (a : Option Addr) (c : Nat) : Value := .agg #[.int .i64 t.kind, .int .i64 t.space, .string t.name, .slice a t.attrs.length c, .string t.data, .string t.system, .int .i64 t.parent, .int .i64 t.first, .int .i64 t.last, .int .i64 t.prev, .int .i64 t.next, .int .i64 t.inner]

structure TellQ (w : World) (bA bR : Nat) (os : List OneM) (g cap : Nat) : Prop where
  prog : ∀ W (i : Nat) o, Below w.heap.size w W → os[i]? = some o → Calls Tryz.prog 12 #[.pointer (some ⟨bA, 0, none⟩), .int .i64 i] W fun e w' => ∃ a c, e = .returned (.tuple #[toldV (tellN os i o) a c, .int .i64 0]) ∧ AttrsIn w' a o.attrs ∧ Below W.heap.size W w'
  ref : ∀ W (i : Nat) o, Below w.heap.size w W → os[i]? = some o → Calls Tryz.prog 33 #[.pointer (some ⟨bR, 0, none⟩), .int .i64 i] W fun e w' => ∃ a c, e = .returned (.tuple #[toldV (tellN os i o) a c, .int .i64 0]) ∧ AttrsIn w' a o.attrs ∧ Below W.heap.size W w'
  len : ∀ W, Below w.heap.size w W → Calls Tryz.prog 34 #[.pointer (some ⟨bA, 0, none⟩)] W fun e w' => e = .returned (.int .i64 os.length) ∧ W = w'
  row : ∀ W, Below w.heap.size w W → W.cell? ⟨bR, 0, none⟩ = some (.slice (some ⟨g, 0, none⟩) os.length cap)
  few : ∀ (i : Nat) o, os[i]? = some o → o.attrs.length ≤ 1024
  most : os.length ≤ 32768

theorem tellQ {w0 w : World} {bA bR : Nat} {os : List OneM} (h : Both w0 w bA bR os) : ∃ g cap, TellQ w bA bR os g cap := by
  obtain ⟨ns, F, G, hp⟩ := h
  obtain ⟨g, cap, hN⟩ := nodesAt hp.rf
  refine ⟨g, cap, fun W i o hW ho => ?_, fun W i o hW ho => ?_, fun W hW => lenO (hp.more hW).ar hp.sim, fun W hW => (hN W hW).row, fun i o ho => ?_, (hN w (Below.refl _ _)).most⟩
  · obtain ⟨n, hn, sm⟩ := hp.sim.get ho
    have ht := hp.sim.tell hn ho
    refine (node_in (hp.more hW).ar i n hn).mono fun e w' ⟨ao, cp, h1, h2, h3, _⟩ => ?_
    obtain ⟨a', c', e1, hin⟩ := ownsRow_attrs h2
    simp at e1
    obtain ⟨rfl, rfl⟩ := e1
    have ha : n.attrs = o.attrs := by rw [ht]; rfl
    refine ⟨ao, cp, ?_, ha ▸ hin, h3⟩
    rw [h1, ht]
    rfl
  · obtain ⟨g', cap', rs, h, rfl, _⟩ := (hp.more hW).rf
    obtain ⟨r, hr, rfl⟩ := osOf_back ho
    refine (refNode_in h hp.sim i r hr).mono fun e w' ⟨na, nc, h1, h2, h3⟩ => ?_
    exact ⟨na, nc, h1, h2, h3⟩
  · obtain ⟨n, hn, sm⟩ := hp.sim.get ho
    have ht := hp.sim.tell hn ho
    obtain ⟨bS, g, cap, h, _⟩ := hp.ar
    have := h.few i n hn
    rw [ht] at this
    exact this

section
variable {w : World} {bA bR g cap : Nat} {os : List OneM}
set_option maxRecDepth 100000 in
set_option maxHeartbeats 8000000 in
theorem same2_any (hQ : TellQ w bA bR os g cap) :
    Calls Tryz.prog 10 #[.pointer (some ⟨bA, 0, none⟩), .pointer (some ⟨bR, 0, none⟩)] w fun e w' => e = .returned (.bool true) ∧ Below w.heap.size w w' := by
  have HQ := hide hQ
  have hmost := hQ.most
  obtain ⟨n, hn⟩ : ∃ n, os.length = n := ⟨_, rfl⟩
  rw [hn] at hmost
  have HN := hide hn
  clear hQ hn
  go_enter Tryz.func10, Tryz.ntmps10
  go_wp2
  go_loopg [5] n (fun k s wx => ∃ j : Nat, s = .int .i64 j ∧ j + k = n ∧ Below w.heap.size w wx)
  case atStart => exact ⟨0, rfl, by omega, Below.refl _ _⟩
  case round =>
    obtain ⟨j, rfl, hjk, hb⟩ := hrel
    have r0 := (unhide HQ).row _ hb
    rw [unhide HN] at r0
    have HB := hide hb
    clear hb
    by_cases hj : j < n
    · have hjz : (j : Int) < (n : Int) := by omega
      obtain ⟨o, ho⟩ : ∃ o, os[j]? = some o := ⟨_, List.getElem?_eq_getElem (by rw [unhide HN]; exact hj)⟩
      have HO := hide ho
      have HF := hide ((unhide HQ).few j o ho)
      clear ho
      obtain ⟨t, ht⟩ : ∃ t, tellN os j o = t := ⟨_, rfl⟩
      have HT := hide ht
      have hat : o.attrs = t.attrs := by rw [← ht]; rfl
      have HAT := hide hat
      clear ht hat
      go_wp2_with (first
        | (go_at_call 12; refine ((unhide HQ).prog _ j o (unhide HB) (unhide HO)).mono ?_; rw [unhide HT]; rintro e w1 ⟨ax, cx, rfl, hax, hb1⟩; have HB1 := hide ((unhide HB).trans (hb1.mono (unhide HB).size)); have HAX := hide hax; clear hax hb1; unfold toldV))
      have hb1' := (unhide HB1).alloc (unhide HB1).size (.cells #[.int .i64 t.kind, .int .i64 t.space, .string t.name, .slice ax t.attrs.length cx, .string t.data, .string t.system, .int .i64 t.parent, .int .i64 t.first, .int .i64 t.last, .int .i64 t.prev, .int .i64 t.next, .int .i64 t.inner] 36)
      refine ((unhide HQ).ref _ j o hb1' (unhide HO)).mono ?_
      rw [unhide HT]
      rintro e w2 ⟨ay, cy, rfl, hay, hb2⟩
      have x0 := (bcell hb2).1 w1.heap.size 0 (by simp)
      have x2 := (bcell hb2).1 w1.heap.size 2 (by simp)
      have x3 := (bcell hb2).1 w1.heap.size 3 (by simp)
      have x4 := (bcell hb2).1 w1.heap.size 4 (by simp)
      have x6 := (bcell hb2).1 w1.heap.size 6 (by simp)
      have x7 := (bcell hb2).1 w1.heap.size 7 (by simp)
      have x10 := (bcell hb2).1 w1.heap.size 10 (by simp)
      simp at x0 x2 x3 x4 x6 x7 x10
      have hl12 : w1.heap.size < w2.heap.size := Nat.lt_of_lt_of_le (by simp) hb2.size
      have hlne : ¬ w1.heap.size = w2.heap.size := by omega
      have HB2 := hide (hb1'.trans (hb2.mono hb1'.size))
      have HAX2 : Hid (AttrsIn w2 ax t.attrs) := hide (by rw [← unhide HAT]; exact ((unhide HAX).below ((Below.refl _ _).alloc (Nat.le_refl _) _)).below hb2)
      have HAY : Hid (AttrsIn w2 ay t.attrs) := hide (by rw [← unhide HAT]; exact hay)
      have HF2 : Hid (t.attrs.length ≤ 1024) := hide (by rw [← unhide HAT]; exact unhide HF)
      clear hb1' hb2 hay
      unfold toldV
      go_wp2
      obtain ⟨gk0, hgk0⟩ : ∃ x, x = gk := ⟨_, rfl⟩
      have HGK := hide hgk0
      have HJK := hide hjk
      clear hgk0 hjk
      go_loopg [10] t.attrs.length (fun k s wx => ∃ m : Nat, s = .int .i64 m ∧ m + k = t.attrs.length ∧ Below w.heap.size w wx ∧ wx.cell? ⟨w1.heap.size, 3, none⟩ = some (.slice ax t.attrs.length cx) ∧ wx.cell? ⟨w2.heap.size, 3, none⟩ = some (.slice ay t.attrs.length cy) ∧ AttrsIn wx ax t.attrs ∧ AttrsIn wx ay t.attrs)
      case atStart => exact ⟨0, rfl, by omega, (unhide HB2).alloc (unhide HB2).size _, by first | (rw [((Below.refl _ w2).alloc (Nat.le_refl _) _).cell hl12]; exact x3) | exact x3 | simp, by simp, (unhide HAX2).below ((Below.refl _ _).alloc (Nat.le_refl _) _), (unhide HAY).below ((Below.refl _ _).alloc (Nat.le_refl _) _)⟩
      case round =>
        obtain ⟨m, rfl, hmk, hbw, k1, k2, hax, hay⟩ := hrel
        have hfew := unhide HF2
        have HBW := hide hbw
        have HAXW := hide hax
        have HAYW := hide hay
        by_cases hm : m < t.attrs.length
        · have hx : t.attrs[m]? = some t.attrs[m] := List.getElem?_eq_getElem hm
          have hmz : (m : Int) < (t.attrs.length : Int) := by omega
          obtain ⟨ba, oa, rfl, a0, a1, a2, a3⟩ := hax.cells m _ hx
          obtain ⟨bb, ob, rfl, b0, b1, b2, b3⟩ := hay.cells m _ hx
          generalize t.attrs[m] = x at a0 a1 a2 a3 b0 b1 b2 b3 hx
          clear hx hbw hax hay
          go_wp2
          go_quiet (fail)
          go_wp2
          go_roundg (gk - 1)
          case measure => omega
          case rel => exact ⟨m + 1, by go_num, by omega, below_dn (unhide HBW) _, by simpa using k1, by simpa using k2, (unhide HAXW).below (below_dn (Below.refl _ _) _), (unhide HAYW).below (below_dn (Below.refl _ _) _)⟩
        · have hmz : ¬ (m : Int) < (t.attrs.length : Int) := by omega
          clear hbw hax hay
          go_wp2
          go_roundg (gk0 - 1)
          case measure => have := unhide HGK; have := unhide HJK; omega
          case rel => exact ⟨j + 1, by go_num, by have := unhide HGK; have := unhide HJK; omega, unhide HBW⟩
    · have hjz : ¬ (j : Int) < (n : Int) := by omega
      have HL := hide ((unhide HQ).len _ (unhide HB).drew)
      rw [unhide HN] at HL
      have hnn : ((n : Int) == (n : Int)) = true := by simp
      go_wp2_with fail
      go_region_with (go_at_call 34; refine (unhide HL).mono ?_; rintro e w3 ⟨rfl, rfl⟩)
      all_goals go_wp2
      all_goals go_ret
      all_goals first | exact ⟨rfl, (unhide HB).drew⟩ | exact ⟨by simp, (unhide HB).drew⟩ | exact ⟨rfl, unhide HB⟩
end
end Go.Proofs.YtnclnijlpchdnaaGreat

namespace Go.Proofs.YtnclnijlpchdnaaGreat
open Go.RowKit

theorem k0_new : K0 [oneM 0] := by
  intro i hi
  match i, hi with
  | 0, _ => rfl
  | i + 1, hi => simp [kindO] at hi

set_option maxRecDepth 100000 in
set_option maxHeartbeats 4000000 in
theorem eplays_walk {w : World} (a : Option Addr) (cap : Nat) (l : List OpE) (hs : ScriptE w a l) (hn : l.length ≤ maxLen) :
    Calls Tryz.prog 3 #[.slice a l.length cap] w fun e w' => e = .returned (.bool true) ∧ Below w.heap.size w w' := by
  have HN := hide (new_any w w.heap.size (Nat.le_refl _))
  have HS := hide hs
  unfold maxLen at hn
  clear hs
  go_enter Tryz.func3, Tryz.ntmps3
  go_wp2_with (first
    | (go_at_call 7; refine (unhide HN).mono ?_; rintro e w1 ⟨F, rfl, h1, hb1, hF⟩; have HNR := hide (refNew_any w1 w.heap.size hb1.size); have H1 := hide h1; have HB1 := hide hb1; have HF := hide hF; clear h1 hb1 hF)
    | (go_at_call 8; refine (unhide HNR).mono ?_; rintro e w2 ⟨bR, g, cp, rfl, h2, hb2, hR, hg⟩; have HBo := hide (both_new (unhide H1) (unhide HB1) (unhide HF) h2 hb2 hR hg); clear h2 hb2 hR hg))
  go_loopg [5] l.length (fun k s wx => ∃ (j : Nat) (os : List OneM), s = .int .i64 j ∧ j + k = l.length ∧ Both w wx (w.heap.size + 3) bR os ∧ K0 os)
  case atStart => exact ⟨0, _, rfl, by omega, unhide HBo, k0_new⟩
  case round =>
    obtain ⟨j, os, rfl, hjk, hB, hk0⟩ := hrel
    have HB := hide hB
    have HK0 := hide hk0
    have HBW := hide (show Below w.heap.size w wr by obtain ⟨ns, F0, G0, hp⟩ := hB; exact hp.below)
    clear hB hk0
    by_cases hj : j < l.length
    · have hx : l[j]? = some l[j] := List.getElem?_eq_getElem hj
      generalize l[j] = o at hx
      have hjz : (j : Int) < (l.length : Int) := by omega
      have ht := (unhide HS).text j o hx
      obtain ⟨b, off, rfl, d0, d1, d2, d3, d4, d5, d6⟩ := ((unhide HS).below (unhide HBW)).cells j o hx
      have HPL := hide (eplay_any (unhide HB) (unhide HK0) o ht)
      have HK1 := hide (k0_step (unhide HK0) o)
      unfold OpE.cells at HPL
      generalize stepE os o = os5 at HPL HK1
      have HSA : Hid (∀ W, Both w W (w.heap.size + 3) bR os5 → Calls Tryz.prog 10 #[.pointer (some ⟨w.heap.size + 3, 0, none⟩), .pointer (some ⟨bR, 0, none⟩)] W fun e w' => e = .returned (.bool true) ∧ Below W.heap.size W w') := hide (fun W hW => by obtain ⟨g', cap', hQ⟩ := tellQ hW; exact same2_any hQ)
      clear hx ht
      by_cases h2 : (j : Int) < 200
      · have h3 : decide ((j : Int) < 200) = true := by simpa using h2
        go_wp2_with (first
          | (go_at_call 9; refine (unhide HPL).mono ?_; rintro e w5 ⟨rfl, hB5⟩; have HB5 := hide hB5; clear hB5)
          | (go_at_call 10; refine ((unhide HSA) _ (unhide HB5)).mono ?_; rintro e w6 ⟨rfl, hb6⟩; have HB6 := hide ((unhide HB5).more hb6); clear hb6))
        go_roundg (gk - 1)
        case measure => omega
        case rel => exact ⟨j + 1, os5, by go_num, by omega, unhide HB6, unhide HK1⟩
      · have h3 : decide ((j : Int) < 200) = false := by simpa using h2
        go_wp2_with (first
          | (go_at_call 9; refine (unhide HPL).mono ?_; rintro e w5 ⟨rfl, hB5⟩; have HB5 := hide hB5; clear hB5)
          | (go_at_call 10; refine ((unhide HSA) _ (unhide HB5)).mono ?_; rintro e w6 ⟨rfl, hb6⟩; have HB6 := hide ((unhide HB5).more hb6); clear hb6))
        go_roundg (gk - 1)
        case measure => omega
        case rel => exact ⟨j + 1, os5, by go_num, by omega, unhide HB5, unhide HK1⟩
    · have hjz : ¬ (j : Int) < (l.length : Int) := by omega
      obtain ⟨g', cap', hQ⟩ := tellQ (unhide HB)
      have HSB := hide (same2_any hQ)
      clear hQ
      go_wp2_with (first
        | (go_at_call 10; refine (unhide HSB).mono ?_; rintro e w6 ⟨rfl, hb6⟩; have HB6 := hide hb6; clear hb6))
      go_ret
      exact ⟨rfl, (unhide HBW).trans ((unhide HB6).mono (unhide HBW).size)⟩
end Go.Proofs.YtnclnijlpchdnaaGreat

namespace Go.Proofs.YtnclnijlpchdnaaGreat.editPlays
open Go.ChangeShapes Go.WideShapes Go.ChangeAt Go.RowKit
open Go.ChangeMaps (open_string shut_string)

theorem own : ownKnob Tryz.prog.godebug = none := by kernel_rfl
theorem laidOut : laidOutB Tryz.prog = true := by kernel_rfl

set_option maxRecDepth 100000 in
theorem lifted (os : Os) (started : os.Started) (H : Type) (enc : TypeId × Value → H) :
    ReturnsInHanded {} Tryz.checked os 3 .any (Rows.editPlaysSpec.pre6 enc Tryz.prog Tryz.f3 Rows.editPlaysRow.domain false) (Rows.editPlaysSpec.post enc Tryz.prog Tryz.f3 false true false false) := by
  refine returnsInHanded_of_change_sized (C := Tryz.checked) own started (by kernel_rfl) Tryz.func3
    (ChangeSpec.witness6 (enc := enc) (C := Tryz.checked) false ⟨#[], #[.slice none 0 0], []⟩ 8 (by kernel_rfl) (by kernel_rfl) (by kernel_rfl) (by kernel_rfl)) ?_
  intro W base args ds gs before hval0 hW hcnd hsz0 _
  have hval : ∀ (j : Nat) t v, Tryz.f3.params[j]? = some t → args[j]? = some v → Value.okWide Tryz.prog W .any base t v := hval0
  have hW' := hW
  obtain ⟨p, q, hA0, hV, rfl, hfz, hnd⟩ := hW
  have hA : DataW.TrodAll enc Tryz.prog W 0 (fun _ => true) true Tryz.f3.params.toList args.toList ds p := hA0
  rw [Tryz.params3] at hA hval
  obtain ⟨v0, vs0, d0, ds0, p0, q0, hargs, rfl, rfl, h0, r0⟩ := trodAll_cons hA
  obtain ⟨rfl, rfl, rfl⟩ := trodAll_nil r0
  obtain rfl : args = #[v0] := by cases args; simp_all
  obtain ⟨rfl, rfl⟩ := trodVars_none hV
  obtain ⟨a0, len0, cap0, rfl⟩ := okWide_slice Tryz.underlying22 (hval 0 22 v0 rfl rfl)
  have k0 := h0
  have lt0 : ∀ x ∈ p0, x.block < W.heap.size := by obtain ⟨m, hm⟩ := k0; exact DataW.trod_lt m _ _ _ hm
  obtain ⟨l, rfl, hl, hn⟩ := scriptE_open h0
  clear hA0 hval0
  refine (eplays_walk a0 cap0 l hl hn).mono fun e W' ⟨he, bel⟩ => ?_
  subst he
  exact ⟨_, rfl, _, _, _, [], _, [], hW', trodAll_mk1 (shut_bool Tryz.underlying4 _), (trodAll_cons_mk (Below.trod laidOut (by kernel_rfl) (of_decide_eq_true (by kernel_rfl)) k0 bel lt0) trodAll_mk0), rfl, bel.frame _, fun h => by cases h⟩

theorem over : Rows.editPlaysRow.holds Tryz.pinned (OpenSpec.ofChange Rows.editPlaysSpec) :=
  OpenClaim.holds_of_wide 3 Tryz.f3 rfl rfl rfl rfl rfl rfl rfl ⟨rfl, rfl, rfl, rfl, rfl⟩ rfl rfl rfl rfl rfl (by kernel_rfl) Tryz.func3 (by kernel_rfl)
    (of_decide_eq_true (by kernel_rfl)) (by unfold Func.isWrapper; first | (rw [if_pos (by decide +kernel)]; kernel_rfl) | (rw [if_neg (by decide +kernel)]; exact ⟨rfl, rfl⟩))
    (fun os started H enc _ => lifted os started H enc)

end Go.Proofs.YtnclnijlpchdnaaGreat.editPlays
namespace Go.Proofs.YtnclnijlpchdnaaGreat
theorem editPlays_holds : Rows.EditPlaysSaid := editPlays.over
end Go.Proofs.YtnclnijlpchdnaaGreat

namespace Go.Proofs.YtnclnijlpchdnaaGreat
open Go.RowKit

theorem unlinkR_len (os : List OneM) (c : Int) : (unlinkR os c).length = os.length := by
  have := congrArg List.length (kinds_unlink os c)
  simpa [kinds] using this
theorem unlinkR_get (os : List OneM) (c : Nat) {ns : List NodeM} (hs : Sim ns os) (i : Nat) (o : OneM) (ho : os[i]? = some o) :
    ∃ o', (unlinkR os c)[i]? = some o' ∧ o'.kind = o.kind ∧ o'.host = o.host ∧ o'.inner = o.inner ∧ (i = c → o'.up = -1) ∧ (i ≠ c → o'.up = o.up) ∧ o'.kids = o.kids.filter (· ≠ c) := by
  by_cases e0 : unlinkE os c = 0
  · have hh : hasO os c = true := by
      cases hh : hasO os c with
      | false => rw [unlinkE, if_pos hh] at e0; cases e0
      | true => rfl
    obtain ⟨ci, oc, hci, hoc⟩ := hasO_yes hh
    obtain rfl : ci = c := by omega
    have hu : oc.up ≠ -1 := fun e => by
      rw [unlinkE, if_neg (by rw [hh]; decide), upIO_of hoc, if_pos e] at e0
      cases e0
    obtain ⟨p, op, A, B, hup, hop, hk⟩ := hs.cut hoc hu
    have hr : unlinkR os ci = unlinkO os p ci := by rw [unlinkR, if_pos e0, upIO_of hoc, hup]; simp
    rw [hr, unlinkO_get, ho]
    refine ⟨_, rfl, rfl, rfl, rfl, fun e => by simp [e], fun e => by simp [e], ?_⟩
    by_cases e : i = p
    · simp [e]
    · simp only [e, if_false]
      refine (List.filter_eq_self.2 fun x hx => ?_).symm
      have : x ≠ ci := fun ex => by
        subst ex
        obtain ⟨m, hm, hmu⟩ := hs.down i o x ho hx
        rw [hoc] at hm; cases hm
        rw [hup] at hmu
        omega
      simpa using this
  · rw [unlinkR, if_neg e0]
    refine ⟨o, ho, rfl, rfl, rfl, fun e => ?_, fun _ => rfl, (List.filter_eq_self.2 fun x hx => ?_).symm⟩
    · subst e
      have hh := hasO_of ho
      rw [unlinkE, hh, if_neg (by simp), upIO_of ho] at e0
      by_cases h : o.up = -1
      · exact h
      · rw [if_neg h] at e0; exact absurd rfl e0
    · have : x ≠ c := fun ex => by
        subst ex
        obtain ⟨m, hm, hmu⟩ := hs.down i o x ho hx
        have hh := hasO_of hm
        rw [unlinkE, hh, if_neg (by simp), upIO_of hm, if_neg (by omega)] at e0
        exact absurd rfl e0
      simpa using this

theorem path_avoid {f g : Nat → Option Int} {c : Nat} (hfg : ∀ i, i ≠ c → g i = f i) : ∀ {l : List Nat} {k : Int}, c ∉ l → PathOf f k l → PathOf g k l
  | [], _, _, h => h
  | i :: r, k, hc, h => by
    obtain ⟨e, m, hm, hr⟩ := h
    have hi : i ≠ c := fun e => hc (by simp [e])
    exact ⟨e, m, by rw [hfg i hi]; exact hm, path_avoid hfg (fun h => hc (by simp [h])) hr⟩

/-- What mayE = 0 says. -/
structure MayOk (os : List OneM) (i p : Nat) (b : Int) : Prop where
  hi : hasO os i = true
  hp : hasO os p = true
  hb : b = -1 ∨ (hasO os b = true ∧ upIO os b = p)
  par : parentM (kindO os p) = true
  above : aboveO os p i = false
  fits : fitsO os i p b = true
theorem mayOk {os : List OneM} {id pa b : Int} (h : mayE os id pa b = 0) : ∃ i p : Nat, id = i ∧ pa = p ∧ MayOk os i p b := by
  unfold mayE at h
  split at h
  · cases h
  · rename_i h1
    simp only [Bool.not_eq_false, Bool.and_eq_true] at h1
    obtain ⟨i, oi, rfl, hoi⟩ := hasO_yes h1.1
    obtain ⟨p, op, rfl, hop⟩ := hasO_yes h1.2
    refine ⟨i, p, rfl, rfl, ?_⟩
    split at h
    · cases h
    · rename_i h2
      split at h
      · cases h
      · rename_i h3
        split at h
        · cases h
        · rename_i h4
          split at h
          · cases h
          · rename_i h5
            refine ⟨h1.1, h1.2, ?_, ?_, ?_, by simpa using h5⟩
            · by_cases e : b = -1
              · exact .inl e
              · refine .inr ⟨?_, Decidable.byContradiction fun e' => h4 ⟨e, e'⟩⟩
                cases hh : hasO os b with
                | false => exact absurd ⟨e, hh⟩ h2
                | true => rfl
            · cases hh : parentM (kindO os p) with
              | false => exact absurd (.inl hh) h3
              | true => rfl
            · cases hh : aboveO os p i with
              | true => exact absurd (.inr hh) h3
              | false => rfl

theorem put_ok {ns : List NodeM} {os : List OneM} (hs : Sim ns os) (h00 : K0 os) {i p : Nat} {b : Int} (h : MayOk os i p b) (h5 : kindO os i ≠ 5) :
    ∃ o', (putO p (insB os i b) os i)[i]? = some o' ∧ o'.up = (p : Int) ∧ o'.kind = kindO os i ∧ (nbr (putO p (insB os i b) os i) i o').2 = insB os i b := by
  obtain ⟨i', oi, e, hoi⟩ := hasO_yes h.hi
  obtain rfl : i' = i := by omega
  obtain ⟨p', op, e, hop⟩ := hasO_yes h.hp
  obtain rfl : p' = p := by omega
  have hil := (List.getElem?_eq_some_iff.1 hoi).1
  have hpl := (List.getElem?_eq_some_iff.1 hop).1
  have hpi : p' ≠ i' := fun e => by
    subst e
    have := h.above
    rw [above_self hs p' hpl] at this
    cases this
  have hk0 : kindO os i' ≠ 0 := fun e => by
    have hf := h.fits
    by_cases hq : p' = 0
    · obtain rfl := h00 i' e
      exact hpi hq
    · rw [fits_else hq, e] at hf
      simp at hf
  obtain ⟨o1, ho1, k1, _, _, u1, _, _⟩ := unlinkR_get os i' hs i' oi hoi
  obtain ⟨q1, hq1, kq, _, _, _, uq, kidq⟩ := unlinkR_get os i' hs p' op hop
  obtain ⟨ms, hms⟩ := simR_unlink hs (i' : Int)
  have hup1 := u1 rfl
  -- the way up of the parent does not meet the node
  obtain ⟨path, hpath⟩ := hs.ends p' hpl
  have hnot : i' ∉ path := fun hx => by
    have := h.above
    rw [aboveO_of hop (hasO_of hoi) hpath, mem_inPath.2 hx] at this
    cases this
  have hupO : ∀ x, x ≠ i' → upO (unlinkR os i') x = upO os x := fun x hx => by
    cases hox : os[x]? with
    | none =>
      have hxl : (unlinkR os i')[x]? = none := by
        rw [List.getElem?_eq_none_iff, unlinkR_len]
        exact List.getElem?_eq_none_iff.1 hox
      unfold upO
      rw [hox, hxl]
    | some ox =>
      obtain ⟨o2, ho2, _, hh2, _, _, hu2, _⟩ := unlinkR_get os i' hs x ox hox
      unfold upO
      rw [hox, ho2]
      simp [hh2, hu2 hx]
  have hpath1 : PathOf (upO (unlinkR os i')) p' path := path_avoid hupO hnot hpath
  have hab1 : aboveO (unlinkR os i') p' i' = false := by
    rw [aboveO_of hq1 (hasO_of ho1) hpath1]
    cases hx : inPath path (i' : Int) with
    | false => rfl
    | true => exact absurd (mem_inPath.1 hx) hnot
  -- the place
  have hupx : ∀ x : Nat, x ≠ i' → ∀ ox, os[x]? = some ox → upIO (unlinkR os i') x = ox.up := fun x hx ox hox => by
    obtain ⟨o2, ho2, _, _, _, _, hu2, _⟩ := unlinkR_get os i' hs x ox hox
    rw [upIO_of ho2, hu2 hx]
  have hb1 : insB os i' b = -1 ∨ ∃ x : Nat, insB os i' b = (x : Int) ∧ x ≠ i' ∧ ∃ ox, os[x]? = some ox ∧ ox.up = (p' : Int) := by
    unfold insB
    by_cases e : b = (i' : Int)
    · rw [if_pos e]
      have hub : oi.up = (p' : Int) := by
        rcases h.hb with hb | ⟨_, hb⟩
        · omega
        · rw [e, upIO_of hoi] at hb; exact hb
      obtain ⟨q, oq, A, B, hup, hoq, hkq⟩ := hs.cut hoi (by omega)
      obtain rfl : q = p' := by omega
      rw [hop] at hoq; cases hoq
      have hA : i' ∉ A := by
        have hnd := (hs.kids q op hop).nodup
        rw [hkq, List.nodup_append] at hnd
        exact fun hx => hnd.2.2 i' hx i' (by simp) rfl
      have hnx : nextO os i' = headI B := by
        have := nbr_cut hub hop hkq hA
        simp [nextO, hoi, this]
      rw [hnx]
      cases B with
      | nil => exact .inl rfl
      | cons x B =>
        refine .inr ⟨x, rfl, ?_, ?_⟩
        · have hnd := (hs.kids q op hop).nodup
          rw [hkq, List.nodup_append] at hnd
          have := hnd.2.1
          rw [List.nodup_cons] at this
          exact fun e => this.1 (by simp [e])
        · exact hs.down q op x hop (by rw [hkq]; simp)
    · rw [if_neg e]
      rcases h.hb with hb | ⟨hb, hu⟩
      · exact .inl hb
      · obtain ⟨x, ox, rfl, hox⟩ := hasO_yes hb
        exact .inr ⟨x, rfl, fun ex => e (by omega), ox, hox, by rw [upIO_of hox] at hu; exact hu⟩
  have hlink : linkE (unlinkR os i') p' i' (insB os i' b) = 0 := by
    unfold linkE
    have hbb : (insB os i' b == -1 || hasO (unlinkR os i') (insB os i' b)) = true := by
      rcases hb1 with e | ⟨x, e, hx, ox, hox, hux⟩
      · simp [e]
      · rw [e]
        obtain ⟨o2, ho2, _⟩ := unlinkR_get os i' hs x ox hox
        rw [hasO_of ho2]; simp
    have hpar : parentM (kindO (unlinkR os i') p') = true := by rw [kindO_of hq1, kq, ← kindO_of hop]; exact h.par
    rw [hasO_of hq1, hasO_of ho1, hbb, if_neg (by simp), if_neg, if_neg, if_neg]
    · rcases hb1 with e | ⟨x, e, hx, ox, hox, hux⟩
      · simp [e]
      · rw [e, hupx x hx ox hox, hux]; simp
    · rw [upIO_of ho1, hup1, hab1]; simp
    · rw [hpar, kindO_of ho1, k1, ← kindO_of hoi]
      rintro (e | e | e)
      · cases e
      · exact hk0 e
      · exact h5 e
  have hput : putO p' (insB os i' b) os i' = linkO (unlinkR os i') p' i' (insB os i' b) := by
    unfold putO
    rw [linkR, if_pos hlink]
    simp
  rw [hput]
  have hmem : insB os i' b = -1 ∨ ∃ x ∈ q1.kids, insB os i' b = (x : Int) := by
    rcases hb1 with e | ⟨x, e, hx, ox, hox, hux⟩
    · exact .inl e
    · refine .inr ⟨x, ?_, e⟩
      rw [kidq, List.mem_filter]
      rcases hs.up x ox hox with e' | ⟨q, m, e', hqm, hi⟩
      · omega
      · obtain rfl : q = p' := by omega
        rw [hop] at hqm; cases hqm
        exact ⟨hi, by simpa using hx⟩
  have hnd1 := (hms.kids p' q1 hq1).nodup
  obtain ⟨A, B, hAB, hins, hhead⟩ := insO_cut hnd1 hmem i'
  have hg := linkO_get (unlinkR os i') p' i' (insB os i' b) i'
  have hgp := linkO_get (unlinkR os i') p' i' (insB os i' b) p'
  rw [ho1] at hg
  rw [hq1] at hgp
  refine ⟨_, hg, by simp, by show o1.kind = _; rw [k1, kindO_of hoi], ?_⟩
  have hA : i' ∉ A := fun hx => by
    have : i' ∈ q1.kids := by rw [hAB]; exact List.mem_append_left _ hx
    rw [kidq, List.mem_filter] at this
    simpa using this.2
  rw [nbr_cut (p := p') (A := A) (B := B) (by simp) hgp (by simp [hins]) hA, hhead]
end Go.Proofs.YtnclnijlpchdnaaGreat

namespace Go.Proofs.YtnclnijlpchdnaaGreat
open Go.RowKit

theorem awake2_any (w : World) : Calls Tryz.prog 13 #[] w fun e w' => e = .returned (.bool true) ∧ Below w.heap.size w w' := by
  have h1 : ∀ W, Calls Tryz.prog 39 #[.string ⟨#[105, 100]⟩] W fun e w' => e = .returned (.bool true) ∧ Below W.heap.size W w' := fun W => by
    have := name_any ⟨#[105, 100]⟩ W (by decide)
    rw [show nameM ⟨#[105, 100]⟩ = true by decide +kernel] at this
    exact this
  have h2 : ∀ W, Calls Tryz.prog 39 #[.string ⟨#[]⟩] W fun e w' => e = .returned (.bool false) ∧ Below W.heap.size W w' := fun W => by
    have := name_any ⟨#[]⟩ W (by decide)
    rw [show nameM ⟨#[]⟩ = false by decide +kernel] at this
    exact this
  have H1 := hide h1
  have H2 := hide h2
  clear h1 h2
  go_enter Tryz.func13, Tryz.ntmps13
  go_wp2_with (first
    | (have _x := unhide HB1; go_at_call 39; refine ((unhide H2) _).mono ?_; rintro e w2 ⟨rfl, hb⟩; have HB2 := hide ((unhide HB1).trans (hb.mono (unhide HB1).size)); clear hb)
    | (go_at_call 39; refine ((unhide H1) _).mono ?_; rintro e w1 ⟨rfl, hb⟩; have HB1 := hide hb; clear hb))
  go_ret
  exact ⟨rfl, unhide HB2⟩

/-- What Node tells, of every number. -/
theorem nodeP {w0 w : World} {bA bR : Nat} {os osR : List OneM} {ns : List NodeM} {F G : Nat → Prop} (hp : Pair w0 w bA bR os osR ns F G) (k : Int) :
    Calls Tryz.prog 12 #[.pointer (some ⟨bA, 0, none⟩), .int .i64 k] w fun e w' => ∃ v0 v1 v6 v7 v8 v9 v10 v11 v2 v4 v5 ao q cp f, e = .returned (.tuple #[.agg #[.int .i64 v0, .int .i64 v1, .string v2, .slice ao q cp, .string v4, .string v5, .int .i64 v6, .int .i64 v7, .int .i64 v8, .int .i64 v9, .int .i64 v10, .int .i64 v11], .int .i64 f]) ∧
      (∀ (i : Nat) o, k = i → os[i]? = some o → f = 0 ∧ v0 = o.kind ∧ v6 = o.up ∧ v10 = (nbr os i o).2) ∧ Below w.heap.size w w' := by
  cases hh : hasO os k with
  | false =>
    refine (node_no hp.ar k (by rw [hp.sim.hasM]; exact hh)).mono fun e w' ⟨h1, h2⟩ => ⟨_, _, _, _, _, _, _, _, _, _, _, _, _, _, _, h1, fun i o e ho => ?_, h2⟩
    subst e
    rw [hasO_of ho] at hh
    cases hh
  | true =>
    obtain ⟨i, o, rfl, ho⟩ := hasO_yes hh
    obtain ⟨n, hn, sm⟩ := hp.sim.get ho
    have ht := hp.sim.tell hn ho
    refine (node_in hp.ar i n hn).mono fun e w' ⟨ao, cp, h1, _, h3, _⟩ => ⟨_, _, _, _, _, _, _, _, _, _, _, _, _, _, _, h1, fun i' o' e ho' => ?_, h3⟩
    obtain rfl : i = i' := by omega
    rw [ho] at ho'; cases ho'
    rw [ht]
    exact ⟨rfl, rfl, rfl, rfl⟩

/-- What is behind the script's loop in EditMoves. -/
structure MovesQ (w W : World) (bA : Nat) (os : List OneM) (id p b : Int) : Prop where
  ins : Calls Tryz.prog 15 #[.pointer (some ⟨bA, 0, none⟩), .int .i64 id, .int .i64 p, .int .i64 b] W fun e w' => e = .returned (.int .i64 (mayE os id p b)) ∧ Below w.heap.size w w' ∧
    Calls Tryz.prog 12 #[.pointer (some ⟨bA, 0, none⟩), .int .i64 id] w' fun e w'' => ∃ v0 v1 v6 v7 v8 v9 v10 v11 v2 v4 v5 ao q cp f, e = .returned (.tuple #[.agg #[.int .i64 v0, .int .i64 v1, .string v2, .slice ao q cp, .string v4, .string v5, .int .i64 v6, .int .i64 v7, .int .i64 v8, .int .i64 v9, .int .i64 v10, .int .i64 v11], .int .i64 f]) ∧
      (mayE os id p b = 0 → f = 0 ∧ (v0 = 5 ∨ (v6 = p ∧ v10 = insB os id b))) ∧ Below w.heap.size w w''

theorem movesQ {w W : World} {bA bR : Nat} {os : List OneM} (h : Both w W bA bR os) (h00 : K0 os) (id p b : Int) : MovesQ w W bA os id p b := by
  obtain ⟨ns, F, G, hp⟩ := h
  refine ⟨(insert_any hp.ar hp.sim id p b).mono fun e w' ⟨h1, hu⟩ => ?_⟩
  obtain ⟨ns1, F1, hp1, _⟩ := hp.prog (Below.refl _ _) hu
  refine ⟨h1, hp1.below, (nodeP hp1 id).mono fun e w'' ⟨v0, v1, v6, v7, v8, v9, v10, v11, v2, v4, v5, ao, q, cp, f, k1, k2, k3⟩ => ⟨v0, v1, v6, v7, v8, v9, v10, v11, v2, v4, v5, ao, q, cp, f, k1, fun hm => ?_, hp1.below.trans (k3.mono hp1.below.size)⟩⟩
  obtain ⟨i, pn, rfl, rfl, hok⟩ := mayOk hm
  by_cases h5 : kindO os i = 5
  · obtain ⟨i', oi, e, hoi⟩ := hasO_yes hok.hi
    obtain rfl : i' = i := by omega
    have hk : kindO (insR os i' pn b) i' = kindO os i' := by rw [kindO_kinds, kindO_kinds, kinds_ins]
    have hlt : i' < (insR os i' pn b).length := by
      have := congrArg List.length (kinds_ins os i' pn b)
      simp [kinds] at this
      rw [this]; exact (List.getElem?_eq_some_iff.1 hoi).1
    have ho := List.getElem?_eq_getElem hlt
    obtain ⟨f0, e0, _, _⟩ := k2 i' _ rfl ho
    refine ⟨f0, .inl ?_⟩
    rw [e0, ← kindO_of ho, hk, h5]
  · obtain ⟨o', ho', hu', hk', hn'⟩ := put_ok hp.sim h00 hok h5
    have hr : insR os i pn b = putO pn (insB os i b) os i := by
      unfold insR comersO
      rw [if_pos hm, if_neg h5]
      rfl
    rw [hr] at k2
    obtain ⟨f0, _, e6, e10⟩ := k2 i o' rfl ho'
    exact ⟨f0, .inr ⟨by rw [e6, hu'], by rw [e10, hn']⟩⟩
end Go.Proofs.YtnclnijlpchdnaaGreat

namespace Go.Proofs.YtnclnijlpchdnaaGreat
open Go.RowKit

set_option maxRecDepth 100000 in
set_option maxHeartbeats 8000000 in
theorem emoves_walk {w : World} (a : Option Addr) (cap : Nat) (l : List OpE) (hs : ScriptE w a l) (id p b : Int) :
    Calls Tryz.prog 6 #[.slice a l.length cap, .int .i64 id, .int .i64 p, .int .i64 b] w fun e w' => e = .returned (.bool true) ∧ Below w.heap.size w w' := by
  have HN := hide (new_any w w.heap.size (Nat.le_refl _))
  have HS := hide hs
  clear hs
  go_enter Tryz.func6, Tryz.ntmps6
  go_wp2_with (first
    | (go_at_call 7; refine (unhide HN).mono ?_; rintro e w1 ⟨F, rfl, h1, hb1, hF⟩; have HNR := hide (refNew_any w1 w.heap.size hb1.size); have H1 := hide h1; have HB1 := hide hb1; have HF := hide hF; clear h1 hb1 hF)
    | (go_at_call 8; refine (unhide HNR).mono ?_; rintro e w2 ⟨bR, g, cp, rfl, h2, hb2, hR, hg⟩; have HBo := hide (both_new (unhide H1) (unhide HB1) (unhide HF) h2 hb2 hR hg); clear h2 hb2 hR hg))
  go_loopg [11] l.length (fun k s wx => ∃ (j : Nat) (os : List OneM), s = .int .i64 j ∧ j + k = l.length ∧ Both w wx (w.heap.size + 3) bR os ∧ K0 os)
  case atStart => exact ⟨0, _, rfl, by omega, unhide HBo, k0_new⟩
  case round =>
    obtain ⟨j, os, rfl, hjk, hB, hk0⟩ := hrel
    have HB := hide hB
    have HK0 := hide hk0
    have HBW := hide (show Below w.heap.size w wr by obtain ⟨ns, F0, G0, hp⟩ := hB; exact hp.below)
    clear hB hk0
    by_cases hj : j < l.length
    · have hjz : (j : Int) < (l.length : Int) := by omega
      by_cases h2 : (j : Int) < 200
      · have hx : l[j]? = some l[j] := List.getElem?_eq_getElem hj
        generalize l[j] = o at hx
        have ht := (unhide HS).text j o hx
        obtain ⟨b0, off, rfl, d0, d1, d2, d3, d4, d5, d6⟩ := ((unhide HS).below (unhide HBW)).cells j o hx
        have HPL := hide (eplay_any (unhide HB) (unhide HK0) o ht)
        have HK1 := hide (k0_step (unhide HK0) o)
        unfold OpE.cells at HPL
        generalize stepE os o = os5 at HPL HK1
        clear hx ht
        have h3 : decide ((j : Int) < 200) = true := by simpa using h2
        go_wp2_with (first
          | (go_at_call 9; refine (unhide HPL).mono ?_; rintro e w5 ⟨rfl, hB5⟩; have HB5 := hide hB5; clear hB5))
        go_roundg (gk - 1)
        case measure => omega
        case rel => exact ⟨j + 1, os5, by go_num, by omega, unhide HB5, unhide HK1⟩
      · have h3 : decide ((j : Int) < 200) = false := by simpa using h2
        have hQ := (movesQ (unhide HB) (unhide HK0) id p b).ins
        have hidm : mayE os id p b = 0 → ¬ id = -1 := fun hm => by have := of_decide_eq_true (mayE_has hm); omega
        obtain ⟨ev, hev⟩ : ∃ v, mayE os id p b = v := ⟨_, rfl⟩
        rw [hev] at hQ hidm
        obtain ⟨iv, hiv⟩ : ∃ v, insB os id b = v := ⟨_, rfl⟩
        rw [hiv] at hQ
        have hivb : b = id ∨ iv = b := by
          rw [← hiv]
          unfold insB
          by_cases e : b = id
          · exact .inl e
          · exact .inr (by rw [if_neg e])
        have HQ := hide hQ
        have HID := hide hidm
        have HIV := hide hivb
        clear hQ hev hiv hidm hivb
        by_cases he : ev = 0
        · subst he
          go_wp2_with (first
            | (go_at_call 15; refine (unhide HQ).mono ?_; rintro e w5 ⟨rfl, hb5, hN5⟩; have HB5 := hide hb5; have HN5 := hide hN5; clear hb5 hN5))
          refine (unhide HN5).mono ?_
          rintro e w6 ⟨v0, v1, v6, v7, v8, v9, v10, v11, v2, v4, v5, ao, q, cp, f, rfl, hc, hb6⟩
          obtain ⟨rfl, hd⟩ := hc (by trivial)
          have hid := (unhide HID) (by trivial)
          have HB6 := hide hb6
          clear hc hb6
          by_cases k5 : v0 = 5
          · subst k5
            clear hd
            go_wp2_with (first
              | (go_at_call 13; refine (awake2_any _).mono ?_; rintro e w7 ⟨rfl, hb7⟩; have HB7 := hide ((((unhide HB6).alloc (unhide HB6).size _)).trans (hb7.mono ((unhide HB6).alloc (unhide HB6).size _).size)); clear hb7))
            go_ret
            exact ⟨rfl, unhide HB7⟩
          · obtain ⟨rfl, rfl⟩ : v6 = p ∧ v10 = iv := hd.resolve_left k5
            have z5 : (v0 == 5) = false := by simpa using k5
            have zp : (v6 == v6) = true := by simp
            clear hd
            by_cases b1 : b = -1
            · have e10 : v10 = -1 := by rcases unhide HIV with e | e <;> omega
              subst b1
              subst e10
              go_wp2_with fail
              go_ret
              exact ⟨by simp, (unhide HB6).alloc (unhide HB6).size _⟩
            · have zb : (b == -1) = false := by simpa using b1
              have zb' : (b != -1) = true := by simpa using b1
              by_cases b2 : b = id
              · subst b2
                have zz : (b == b) = true := by simp
                go_wp2_with fail
                go_ret
                exact ⟨by simp, (unhide HB6).alloc (unhide HB6).size _⟩
              · have zb2 : (b == id) = false := by simpa using b2
                have e10 : v10 = b := (unhide HIV).resolve_left b2
                subst e10
                have zz : (v10 == v10) = true := by simp
                go_wp2_with fail
                go_ret
                exact ⟨by simp, (unhide HB6).alloc (unhide HB6).size _⟩
        · have ze : (ev != 0) = true := by simpa using he
          go_wp2_with (first
            | (go_at_call 15; refine (unhide HQ).mono ?_; rintro e w5 ⟨rfl, hb5, hN5⟩; have HB5 := hide hb5; have HN5 := hide hN5; clear hb5 hN5)
            | (go_at_call 12; refine (unhide HN5).mono ?_; rintro e w6 ⟨v0, v1, v6, v7, v8, v9, v10, v11, v2, v4, v5, ao, q, cp, f, rfl, _, hb6⟩; have HB6 := hide hb6; clear hb6)
            | (go_at_call 13; refine (awake2_any _).mono ?_; rintro e w7 ⟨rfl, hb7⟩; have HB7 := hide ((((unhide HB6).alloc (unhide HB6).size _)).trans (hb7.mono ((unhide HB6).alloc (unhide HB6).size _).size)); clear hb7))
          go_ret
          exact ⟨rfl, unhide HB7⟩
    · have hjz : ¬ (j : Int) < (l.length : Int) := by omega
      have hQ := (movesQ (unhide HB) (unhide HK0) id p b).ins
      have hidm : mayE os id p b = 0 → ¬ id = -1 := fun hm => by have := of_decide_eq_true (mayE_has hm); omega
      obtain ⟨ev, hev⟩ : ∃ v, mayE os id p b = v := ⟨_, rfl⟩
      rw [hev] at hQ hidm
      obtain ⟨iv, hiv⟩ : ∃ v, insB os id b = v := ⟨_, rfl⟩
      rw [hiv] at hQ
      have hivb : b = id ∨ iv = b := by
        rw [← hiv]
        unfold insB
        by_cases e : b = id
        · exact .inl e
        · exact .inr (by rw [if_neg e])
      have HQ := hide hQ
      have HID := hide hidm
      have HIV := hide hivb
      clear hQ hev hiv hidm hivb
      by_cases he : ev = 0
      · subst he
        go_wp2_with (first
          | (go_at_call 15; refine (unhide HQ).mono ?_; rintro e w5 ⟨rfl, hb5, hN5⟩; have HB5 := hide hb5; have HN5 := hide hN5; clear hb5 hN5))
        refine (unhide HN5).mono ?_
        rintro e w6 ⟨v0, v1, v6, v7, v8, v9, v10, v11, v2, v4, v5, ao, q, cp, f, rfl, hc, hb6⟩
        obtain ⟨rfl, hd⟩ := hc (by trivial)
        have hid := (unhide HID) (by trivial)
        have HB6 := hide hb6
        clear hc hb6
        by_cases k5 : v0 = 5
        · subst k5
          clear hd
          go_wp2_with (first
            | (go_at_call 13; refine (awake2_any _).mono ?_; rintro e w7 ⟨rfl, hb7⟩; have HB7 := hide ((((unhide HB6).alloc (unhide HB6).size _)).trans (hb7.mono ((unhide HB6).alloc (unhide HB6).size _).size)); clear hb7))
          go_ret
          exact ⟨rfl, unhide HB7⟩
        · obtain ⟨rfl, rfl⟩ : v6 = p ∧ v10 = iv := hd.resolve_left k5
          have z5 : (v0 == 5) = false := by simpa using k5
          have zp : (v6 == v6) = true := by simp
          clear hd
          by_cases b1 : b = -1
          · have e10 : v10 = -1 := by rcases unhide HIV with e | e <;> omega
            subst b1
            subst e10
            go_wp2_with fail
            go_ret
            exact ⟨by simp, (unhide HB6).alloc (unhide HB6).size _⟩
          · have zb : (b == -1) = false := by simpa using b1
            have zb' : (b != -1) = true := by simpa using b1
            by_cases b2 : b = id
            · subst b2
              have zz : (b == b) = true := by simp
              go_wp2_with fail
              go_ret
              exact ⟨by simp, (unhide HB6).alloc (unhide HB6).size _⟩
            · have zb2 : (b == id) = false := by simpa using b2
              have e10 : v10 = b := (unhide HIV).resolve_left b2
              subst e10
              have zz : (v10 == v10) = true := by simp
              go_wp2_with fail
              go_ret
              exact ⟨by simp, (unhide HB6).alloc (unhide HB6).size _⟩
      · have ze : (ev != 0) = true := by simpa using he
        go_wp2_with (first
          | (go_at_call 15; refine (unhide HQ).mono ?_; rintro e w5 ⟨rfl, hb5, hN5⟩; have HB5 := hide hb5; have HN5 := hide hN5; clear hb5 hN5)
          | (go_at_call 12; refine (unhide HN5).mono ?_; rintro e w6 ⟨v0, v1, v6, v7, v8, v9, v10, v11, v2, v4, v5, ao, q, cp, f, rfl, _, hb6⟩; have HB6 := hide hb6; clear hb6)
          | (go_at_call 13; refine (awake2_any _).mono ?_; rintro e w7 ⟨rfl, hb7⟩; have HB7 := hide ((((unhide HB6).alloc (unhide HB6).size _)).trans (hb7.mono ((unhide HB6).alloc (unhide HB6).size _).size)); clear hb7))
        go_ret
        exact ⟨rfl, unhide HB7⟩
end Go.Proofs.YtnclnijlpchdnaaGreat

namespace Go.Proofs.YtnclnijlpchdnaaGreat.editMoves
open Go.ChangeShapes Go.WideShapes Go.ChangeAt Go.RowKit
open Go.ChangeMaps (open_string shut_string)

theorem own : ownKnob Tryz.prog.godebug = none := by kernel_rfl
theorem laidOut : laidOutB Tryz.prog = true := by kernel_rfl

set_option maxRecDepth 100000 in
theorem lifted (os : Os) (started : os.Started) (H : Type) (enc : TypeId × Value → H) :
    ReturnsInHanded {} Tryz.checked os 6 .any (Rows.editMovesSpec.pre6 enc Tryz.prog Tryz.f6 Rows.editMovesRow.domain false) (Rows.editMovesSpec.post enc Tryz.prog Tryz.f6 false true false false) := by
  refine returnsInHanded_of_change_sized (C := Tryz.checked) own started (by kernel_rfl) Tryz.func6
    (ChangeSpec.witness6 (enc := enc) (C := Tryz.checked) false ⟨#[], #[.slice none 0 0, .int .i64 0, .int .i64 0, .int .i64 0], []⟩ 8 (by kernel_rfl) (by kernel_rfl) (by kernel_rfl) (by kernel_rfl)) ?_
  intro W base args ds gs before hval0 hW hcnd hsz0 _
  have hval : ∀ (j : Nat) t v, Tryz.f6.params[j]? = some t → args[j]? = some v → Value.okWide Tryz.prog W .any base t v := hval0
  have hW' := hW
  obtain ⟨p, q, hA0, hV, rfl, hfz, hnd⟩ := hW
  have hA : DataW.TrodAll enc Tryz.prog W 0 (fun _ => true) true Tryz.f6.params.toList args.toList ds p := hA0
  rw [Tryz.params6] at hA hval
  obtain ⟨v0, vs0, d0, ds0, p0, q0, hargs, rfl, rfl, h0, r0⟩ := trodAll_cons hA
  obtain ⟨v1, vs1, d1, ds1, p1, q1, hargs1, rfl, rfl, h1, r1⟩ := trodAll_cons r0
  obtain ⟨v2, vs2, d2, ds2, p2, q2, hargs2, rfl, rfl, h2, r2⟩ := trodAll_cons r1
  obtain ⟨v3, vs3, d3, ds3, p3, q3, hargs3, rfl, rfl, h3, r3⟩ := trodAll_cons r2
  obtain ⟨rfl, rfl, rfl⟩ := trodAll_nil r3
  obtain rfl : args = #[v0, v1, v2, v3] := by cases args; simp_all
  obtain ⟨rfl, rfl⟩ := trodVars_none hV
  obtain ⟨a0, len0, cap0, rfl⟩ := okWide_slice Tryz.underlying22 (hval 0 22 v0 rfl rfl)
  obtain ⟨m1, rfl, rfl, rfl, w_1⟩ := open_int Tryz.underlying3 (hval 1 3 v1 rfl rfl) h1
  obtain ⟨m2, rfl, rfl, rfl, w_2⟩ := open_int Tryz.underlying3 (hval 2 3 v2 rfl rfl) h2
  obtain ⟨m3, rfl, rfl, rfl, w_3⟩ := open_int Tryz.underlying3 (hval 3 3 v3 rfl rfl) h3
  have k0 := h0
  have lt0 : ∀ x ∈ p0, x.block < W.heap.size := by obtain ⟨m, hm⟩ := k0; exact DataW.trod_lt m _ _ _ hm
  obtain ⟨l, rfl, hl, _⟩ := scriptE_open h0
  clear hA0 hval0
  refine (emoves_walk a0 cap0 l hl m1 m2 m3).mono fun e W' ⟨he, bel⟩ => ?_
  subst he
  exact ⟨_, rfl, _, _, _, [], _, [], hW', trodAll_mk1 (shut_bool Tryz.underlying4 _), (trodAll_cons_mk (Below.trod laidOut (by kernel_rfl) (of_decide_eq_true (by kernel_rfl)) k0 bel lt0) (trodAll_cons_mk (shut_int Tryz.underlying3 w_1) (trodAll_cons_mk (shut_int Tryz.underlying3 w_2) (trodAll_cons_mk (shut_int Tryz.underlying3 w_3) trodAll_mk0)))), rfl, bel.frame _, fun h => by cases h⟩

theorem over : Rows.editMovesRow.holds Tryz.pinned (OpenSpec.ofChange Rows.editMovesSpec) :=
  OpenClaim.holds_of_wide 6 Tryz.f6 rfl rfl rfl rfl rfl rfl rfl ⟨rfl, rfl, rfl, rfl, rfl⟩ rfl rfl rfl rfl rfl (by kernel_rfl) Tryz.func6 (by kernel_rfl)
    (of_decide_eq_true (by kernel_rfl)) (by unfold Func.isWrapper; first | (rw [if_pos (by decide +kernel)]; kernel_rfl) | (rw [if_neg (by decide +kernel)]; exact ⟨rfl, rfl⟩))
    (fun os started H enc _ => lifted os started H enc)

end Go.Proofs.YtnclnijlpchdnaaGreat.editMoves
namespace Go.Proofs.YtnclnijlpchdnaaGreat
theorem editMoves_holds : Rows.EditMovesSaid := editMoves.over
end Go.Proofs.YtnclnijlpchdnaaGreat
