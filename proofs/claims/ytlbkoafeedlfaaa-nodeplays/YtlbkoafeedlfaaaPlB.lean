/-
  Proved: NodePlays returns true: under every script of calls the program's arena answers each call as the document's, and both tell the same of every node, its children and its host (behind each of the first 200 calls, and at the end).
  Conditions: none beyond the given row's own.
-/
import Derived.Test.YtlbkoafeedlfaaaRnA
import Derived.Test.YtlbkoafeedlfaaaOpen
import Derived.Test.YtlbkoafeedlfaaaRows
import Derived.Lib.SmallJoins
namespace Go.Proofs.Ytlbkoafeedlfaaa
open Go.RowKit

section
variable {w0 w W : World} {bA bR : Nat} {os : List OneM}

/-- The document's children, as a call. -/
theorem refKids_any {base g cap : Nat} {rs : List OneR} (h : Rf w base bR g cap rs) (k : Int) :
    Calls Try.prog 50 #[.pointer (some ⟨bR, 0, none⟩), .int .i64 k] w fun e w' => ∃ a c, e = .returned (.slice a (kidsO (osOf rs) k).length c) ∧ IntsIn w' a (kidsO (osOf rs) k) ∧ Below w.heap.size w w' := by
  cases hk : hasO (osOf rs) k with
  | false =>
    have e : kidsO (osOf rs) k = [] := by simp [kidsO, hk]
    have HIS := hide (refIs_any h k)
    rw [hk] at HIS
    rw [e]
    clear h hk e
    go_enter Try.func50, Try.ntmps50
    go_wp2_with (first | (go_at_call 79; refine (unhide HIS).mono ?_; rintro e w' ⟨rfl, rfl⟩))
    go_ret
    exact ⟨none, 0, rfl, ⟨fun i x hi => by simp at hi⟩, Below.refl _ _⟩
  | true =>
    obtain ⟨i, o, rfl, ho⟩ := hasO_yes hk
    obtain ⟨r, hr, rfl⟩ := osOf_back ho
    rw [kidsO_of ho]
    refine (refKids_in h i r hr).mono fun e w' ⟨v, h1, h2, h3⟩ => ?_
    obtain ⟨a, c, rfl, hin, _⟩ := ownsRow_ints h2
    exact ⟨a, c, h1, hin, h3⟩

/-- All that is asked of a number that is there. -/
structure Asks (w : World) (bA bR : Nat) (os : List OneM) (k : Int) : Prop where
  kids : ∀ W, Below w.heap.size w W → Calls Try.prog 19 #[.pointer (some ⟨bA, 0, none⟩), .int .i64 k] W fun e w' => ∃ a c, e = .returned (.slice a (kidsO os k).length c) ∧ IntsIn w' a (kidsO os k) ∧ Below W.heap.size W w'
  refKids : ∀ W, Below w.heap.size w W → Calls Try.prog 50 #[.pointer (some ⟨bR, 0, none⟩), .int .i64 k] W fun e w' => ∃ a c, e = .returned (.slice a (kidsO os k).length c) ∧ IntsIn w' a (kidsO os k) ∧ Below W.heap.size W w'
  few : (kidsO os k).length ≤ 32768
  host : ∃ x : Int, (∀ W, Below w.heap.size w W → Calls Try.prog 51 #[.pointer (some ⟨bA, 0, none⟩), .int .i64 k] W fun e w' => e = .returned (.int .i64 x) ∧ W = w') ∧ ∀ W, Below w.heap.size w W → Calls Try.prog 52 #[.pointer (some ⟨bR, 0, none⟩), .int .i64 k] W fun e w' => e = .returned (.int .i64 x) ∧ W = w'

theorem Both.asks (h : Both w0 w bA bR os) (k : Int) : Asks w bA bR os k := by
  obtain ⟨ns, F, G, hp⟩ := h
  refine ⟨fun W hb => ?_, fun W hb => ?_, ?_, ?_⟩
  · refine (kids_sim (hp.more hb).ar hp.sim k).mono fun e w' ⟨v, h1, h2, h3⟩ => ?_
    obtain ⟨a, c, rfl, hin, _⟩ := ownsRow_ints h2
    exact ⟨a, c, h1, hin, h3⟩
  · obtain ⟨g, cap, rs, h, rfl, _⟩ := (hp.more hb).rf
    exact refKids_any h k
  · cases hk : hasO os k with
    | false => simp [kidsO, hk]
    | true =>
      obtain ⟨i, o, rfl, ho⟩ := hasO_yes hk
      rw [kidsO_of ho]
      obtain ⟨bS, g, cap, har, _⟩ := hp.ar
      have hK := hp.sim.kids i o ho
      have := List.Nodup.length_le_of_subset hK.nodup (l₂ := List.range ns.length) (fun x hx => List.mem_range.2 (hK.mem x hx))
      have := har.most
      simp at *
      omega
  · refine ⟨hostM ns k, fun W hb => ?_, fun W hb => ?_⟩
    · obtain ⟨bS, g, cap, har, _⟩ := (hp.more hb).ar
      exact host_any har k
    · obtain ⟨g, cap, rs, h, rfl, _⟩ := (hp.more hb).rf
      have e : hostM ns k = if hasO (osOf rs) k then (((osOf rs)[k.toNat]?).map (·.host)).getD (-1) else -1 := by
        cases hk : hasO (osOf rs) k with
        | true =>
          obtain ⟨i, o, rfl, ho⟩ := hasO_yes hk
          rw [hp.sim.hostM ho]
          simp [ho]
        | false =>
          unfold hostM
          rw [if_neg]
          · simp
          · rintro ⟨h1, h2, _⟩
            rw [hp.sim.len] at h2
            have : hasO (osOf rs) k = true := by simp [hasO]; omega
            rw [hk] at this
            cases this
      rw [e]
      exact refHost_any h k
end
end Go.Proofs.Ytlbkoafeedlfaaa

namespace Go.Proofs.Ytlbkoafeedlfaaa
open Go.RowKit

theorem box12 {w5 w6 : World} {v0 v1 v2 v3 v4 v5 v6 v7 v8 v9 v10 v11 : Value} {t : TypeId} (hb : Below (w5.alloc (.cells #[v0, v1, v2, v3, v4, v5, v6, v7, v8, v9, v10, v11] t)).heap.size (w5.alloc (.cells #[v0, v1, v2, v3, v4, v5, v6, v7, v8, v9, v10, v11] t)) w6) :
    w6.cell? ⟨w5.heap.size, 0, none⟩ = some v0 ∧ w6.cell? ⟨w5.heap.size, 1, none⟩ = some v1 ∧ w6.cell? ⟨w5.heap.size, 2, none⟩ = some v2 ∧ w6.cell? ⟨w5.heap.size, 3, none⟩ = some v3 ∧ w6.cell? ⟨w5.heap.size, 4, none⟩ = some v4 ∧ w6.cell? ⟨w5.heap.size, 5, none⟩ = some v5 ∧ w6.cell? ⟨w5.heap.size, 6, none⟩ = some v6 ∧ w6.cell? ⟨w5.heap.size, 7, none⟩ = some v7 ∧ w6.cell? ⟨w5.heap.size, 8, none⟩ = some v8 ∧
    w6.cell? ⟨w5.heap.size, 9, none⟩ = some v9 ∧ w6.cell? ⟨w5.heap.size, 10, none⟩ = some v10 ∧ w6.cell? ⟨w5.heap.size, 11, none⟩ = some v11 ∧ w5.heap.size < w6.heap.size := by
  have hs := hb.size
  have hc : ∀ j, w6.cell? ⟨w5.heap.size, j, none⟩ = (w5.alloc (.cells #[v0, v1, v2, v3, v4, v5, v6, v7, v8, v9, v10, v11] t)).cell? ⟨w5.heap.size, j, none⟩ := fun j => hb.cell (p := ⟨w5.heap.size, j, none⟩) (by simp)
  refine ⟨?_, ?_, ?_, ?_, ?_, ?_, ?_, ?_, ?_, ?_, ?_, ?_, by simp at hs; omega⟩ <;> (rw [hc]; simp)

section
variable {w0 w W : World} {bA bR : Nat} {os : List OneM}

/-- What both Nodes tell of a number. -/
def Tells (w : World) (bA bR : Nat) (k : Int) : Prop :=
  ∃ (v0 v1 v6 v7 v8 v9 v10 v11 er : Int) (v2 v4 v5 : ByteArray) (l : List AttrM), l.length ≤ 1024 ∧
    (∀ W, Below w.heap.size w W → Calls Try.prog 18 #[.pointer (some ⟨bA, 0, none⟩), .int .i64 k] W fun e w' => ∃ a c, e = .returned (.tuple #[.agg #[.int .i64 v0, .int .i64 v1, .string v2, .slice a l.length c, .string v4, .string v5, .int .i64 v6, .int .i64 v7, .int .i64 v8, .int .i64 v9, .int .i64 v10, .int .i64 v11], .int .i64 er]) ∧ AttrsIn w' a l ∧ Below W.heap.size W w') ∧
    (∀ W, Below w.heap.size w W → Calls Try.prog 47 #[.pointer (some ⟨bR, 0, none⟩), .int .i64 k] W fun e w' => ∃ a c, e = .returned (.tuple #[.agg #[.int .i64 v0, .int .i64 v1, .string v2, .slice a l.length c, .string v4, .string v5, .int .i64 v6, .int .i64 v7, .int .i64 v8, .int .i64 v9, .int .i64 v10, .int .i64 v11], .int .i64 er]) ∧ AttrsIn w' a l ∧ Below W.heap.size W w')

theorem Both.tells (h : Both w0 w bA bR os) (k : Int) : Tells w bA bR k := by
  obtain ⟨ns, F, G, hp⟩ := h
  cases hk : hasO os k with
  | false =>
    refine ⟨0, 0, 0, 0, 0, 0, 0, 0, 6, ⟨#[]⟩, ⟨#[]⟩, ⟨#[]⟩, [], by simp, fun W hb => ?_, fun W hb => ?_⟩
    · refine (node_no (hp.more hb).ar k (by rw [hp.sim.hasM]; exact hk)).mono fun e w' ⟨h1, h2⟩ => ?_
      exact ⟨none, 0, h1, ⟨fun i x hi => by simp at hi⟩, h2⟩
    · obtain ⟨g, cap, rs, h, rfl, _⟩ := (hp.more hb).rf
      refine (refNode_no h k hk).mono fun e w' ⟨h1, h2⟩ => ?_
      exact ⟨none, 0, h1, ⟨fun i x hi => by simp at hi⟩, h2⟩
  | true =>
    obtain ⟨i, o, rfl, ho⟩ := hasO_yes hk
    obtain ⟨n, hn, _⟩ := hp.sim.get ho
    have ht := hp.sim.tell hn ho
    have hat : n.attrs = o.attrs := by rw [ht]; rfl
    have hfew : o.attrs.length ≤ 1024 := by
      obtain ⟨bS, g, cap, har, _⟩ := hp.ar
      rw [← hat]; exact har.few i n hn
    refine ⟨o.kind, o.space, o.up, headI o.kids, lastI o.kids, (nbr os i o).1, (nbr os i o).2, o.inner, 0, o.name, o.data, o.system, o.attrs, hfew, fun W hb => ?_, fun W hb => ?_⟩
    · refine (node_in (hp.more hb).ar i n hn).mono fun e w' ⟨ao, cp, h1, h2, h3, _⟩ => ?_
      obtain ⟨a2, c2, e2, hA⟩ := ownsRow_attrs h2
      simp only [Value.slice.injEq] at e2
      obtain ⟨rfl, _, _⟩ := e2
      refine ⟨ao, cp, ?_, hat ▸ hA, h3⟩
      rw [h1, hat]
      rw [ht]
      rfl
    · obtain ⟨g, cap, rs, h, rfl, _⟩ := (hp.more hb).rf
      obtain ⟨r, hr, rfl⟩ := osOf_back ho
      refine (refNode_in h hp.sim i r hr).mono fun e w' ⟨na, nc, h1, h2, h3⟩ => ?_
      exact ⟨na, nc, h1, h2, h3⟩

set_option maxHeartbeats 8000000 in
theorem same_any (h : Both w0 w bA bR os) :
    Calls Try.prog 16 #[.pointer (some ⟨bA, 0, none⟩), .pointer (some ⟨bR, 0, none⟩)] w fun e w' => e = .returned (.bool true) ∧ Below w.heap.size w w' := by
  have HH := hide h
  obtain ⟨ns, F, G, hp⟩ := h
  have hos : os.length ≤ 32768 := by
    obtain ⟨bS, g, cap, har, _⟩ := hp.ar
    rw [← hp.sim.len]; exact har.most
  have HL : Hid (∀ W, Below w.heap.size w W → ∃ g cap, W.cell? ⟨bR, 0, none⟩ = some (.slice (some ⟨g, 0, none⟩) os.length cap)) := hide (fun W hb => by
    obtain ⟨g, cap, rs, h, rfl, _⟩ := (hp.more hb).rf
    exact ⟨g, cap, by rw [osOf_len]; exact h.cR⟩)
  have HLEN : Hid (∀ W, Below w.heap.size w W → Calls Try.prog 17 #[.pointer (some ⟨bA, 0, none⟩)] W fun e w' => e = .returned (.int .i64 os.length) ∧ W = w') := hide (fun W hb => by
    obtain ⟨bS, g, cap, har, _⟩ := (hp.more hb).ar
    have := len_any har
    rw [hp.sim.len] at this
    exact this)
  clear hp
  go_enter Try.func16, Try.ntmps16
  go_wp2_with fail
  go_loopg [5] (os.length + 2) (fun k s wx => ∃ j : Nat, s = .int .i64 ((j : Int) - 1) ∧ j + k = os.length + 2 ∧ Below w.heap.size w wx)
  case atStart => exact ⟨0, rfl, by omega, Below.refl _ _⟩
  case round =>
    obtain ⟨j, rfl, hjk, hb⟩ := hrel
    obtain ⟨g, cp, hcR⟩ := (unhide HL) _ hb
    have HBW := hide hb
    by_cases hj : j < os.length + 2
    · obtain ⟨v0, v1, v6, v7, v8, v9, v10, v11, er, v2, v4, v5, l, hl, h18, h47⟩ := ((unhide HH).more hb).tells ((j : Int) - 1)
      have hA := ((unhide HH).more hb).asks ((j : Int) - 1)
      obtain ⟨x, h51, h52⟩ := hA.host
      have H18 := hide h18
      have H47 := hide h47
      have H19 := hide hA.kids
      have H50 := hide hA.refKids
      have H51 := hide h51
      have H52 := hide h52
      have HFEW := hide hA.few
      have hjz : (j : Int) - 1 ≤ (os.length : Int) := by omega
      clear h18 h47 h51 h52 hA hb
      obtain ⟨wy, hwy⟩ : ∃ wy, wy = wr := ⟨_, rfl⟩
      subst hwy
      set_option maxRecDepth 10000 in
      go_wp2_with (first
        | (go_at_call 18; refine ((unhide H18) _ (Below.refl _ _)).mono ?_; rintro e w5 ⟨a, ca, rfl, ha, hb5⟩; have HA5 := hide ha; have HB5 := hide hb5; clear ha hb5)
        | (go_at_call 47; refine ((unhide H47) _ ((unhide HB5).alloc (unhide HB5).size _)).mono ?_; rintro e w6 ⟨b, cb, rfl, hbb, hb6⟩; have HA6 := hide hbb; have HB6 := hide (((unhide HB5).alloc (unhide HB5).size _).trans (hb6.mono (by have := (unhide HB5).size; simp; omega))); have HA56 := hide (((unhide HA5).below ((Below.refl _ _).alloc (Nat.le_refl _) _)).below hb6); obtain ⟨x0, x1, x2, x3, x4, x5, x6, x7, x8, x9, x10, x11, hl56⟩ := box12 hb6; clear hbb hb6)
        | (go_at_call 48; refine (alike_any a b ca cb l ((unhide HA56).below ((Below.refl _ _).alloc (Nat.le_refl _) _)) ((unhide HA6).below ((Below.refl _ _).alloc (Nat.le_refl _) _)) hl v0 v1 v6 v7 v8 v9 v10 v11 v2 v4 v5).mono ?_; rintro e w7 ⟨rfl, hb7⟩; have HB7 := hide (((unhide HB6).alloc (unhide HB6).size _).trans (hb7.mono (by have := (unhide HB6).size; simp; omega))); clear hb7)
        | (go_at_call 19; refine ((unhide H19) _ (unhide HB7)).mono ?_; rintro e w8 ⟨ka, kca, rfl, hk8, hb8⟩; have HK8 := hide hk8; have HB8 := hide ((unhide HB7).trans (hb8.mono (unhide HB7).size)); clear hk8 hb8)
        | (go_at_call 50; refine ((unhide H50) _ (unhide HB8)).mono ?_; rintro e w9 ⟨kb, kcb, rfl, hk9, hb9⟩; have HK9 := hide hk9; have HK89 := hide ((unhide HK8).below hb9); have HB9 := hide ((unhide HB8).trans (hb9.mono (unhide HB8).size)); clear hk9 hb9)
        | (go_at_call 49; refine (ints_any ka kb kca kcb _ (unhide HK89) (unhide HK9) (unhide HFEW)).mono ?_; rintro e w10 ⟨rfl, hb10⟩; have HB10 := hide ((unhide HB9).trans (hb10.mono (unhide HB9).size)); clear hb10)
        | (go_at_call 51; refine ((unhide H51) _ (unhide HB10)).mono ?_; rintro e w11 ⟨rfl, rfl⟩)
        | (go_at_call 52; refine ((unhide H52) _ (unhide HB10)).mono ?_; rintro e w12 ⟨rfl, rfl⟩))
      go_roundg (gk - 1)
      case measure => omega
      case rel => exact ⟨j + 1, by rw [show (((j + 1 : Nat) : Int) - 1) = (j : Int) by omega], by omega, (unhide HBW).trans ((unhide HB10).mono (unhide HBW).size)⟩
    · have hjz : ¬ (j : Int) - 1 ≤ (os.length : Int) := by omega
      have hlt := World.block_lt_of_cell? wr _ hcR
      clear hb
      go_wp2_with fail
      go_quiet ((go_at_call 17; exact Calls.quiet_of_same (((unhide HLEN) _ (below_drewN' (unhide HBW) _)).mono fun _ _ ⟨h1, h2⟩ => ⟨h1, h2.symm⟩)))
      go_wp2
      go_ret
      exact ⟨by simp, below_drewN' (unhide HBW) _⟩
end
end Go.Proofs.Ytlbkoafeedlfaaa

namespace Go.Proofs.Ytlbkoafeedlfaaa
open Go.RowKit

set_option maxHeartbeats 4000000 in
theorem plays_walk {w : World} (a : Option Addr) (cap : Nat) (l : List OpM) (hs : ScriptIn w a l) (hn : l.length ≤ maxLen) :
    Calls Try.prog 3 #[.slice a l.length cap] w fun e w' => e = .returned (.bool true) ∧ Below w.heap.size w w' := by
  have HN := hide (new_any w w.heap.size (Nat.le_refl _))
  have HS := hide hs
  unfold maxLen at hn
  clear hs
  go_enter Try.func3, Try.ntmps3
  go_wp2_with (first
    | (go_at_call 13; refine (unhide HN).mono ?_; rintro e w1 ⟨F, rfl, h1, hb1, hF⟩; have HNR := hide (refNew_any w1 w.heap.size hb1.size); have H1 := hide h1; have HB1 := hide hb1; have HF := hide hF; clear h1 hb1 hF)
    | (go_at_call 14; refine (unhide HNR).mono ?_; rintro e w2 ⟨bR, g, cp, rfl, h2, hb2, hR, hg⟩; have HBo := hide (both_new (unhide H1) (unhide HB1) (unhide HF) h2 hb2 hR hg); clear h2 hb2 hR hg))
  go_loopg [5] l.length (fun k s wx => ∃ (j : Nat) (os : List OneM), s = .int .i64 j ∧ j + k = l.length ∧ Both w wx (w.heap.size + 3) bR os)
  case atStart => exact ⟨0, _, rfl, by omega, unhide HBo⟩
  case round =>
    obtain ⟨j, os, rfl, hjk, hB⟩ := hrel
    have HB := hide hB
    have HBW := hide (show Below w.heap.size w wr by obtain ⟨ns, F0, G0, hp⟩ := hB; exact hp.below)
    clear hB
    by_cases hj : j < l.length
    · have hx : l[j]? = some l[j] := List.getElem?_eq_getElem hj
      generalize l[j] = o at hx
      have hjz : (j : Int) < (l.length : Int) := by omega
      obtain ⟨ha, hr⟩ := (unhide HS).attrs j o hx
      obtain ⟨b, off, rfl, d0, d1, d2, d3, d4, d5, d6, d7, d8, d9, d10, d11⟩ := ((unhide HS).below (unhide HBW)).cells j o hx
      have HPL := hide (play_any (unhide HB) o ha hr)
      unfold OpM.cells at HPL
      clear ha hr hx
      by_cases h2 : (j : Int) < 200
      · have h3 : decide ((j : Int) < 200) = true := by simpa using h2
        go_wp2_with (first
          | (go_at_call 15; refine (unhide HPL).mono ?_; rintro e w5 ⟨rfl, os5, hB5⟩; have HB5 := hide hB5; clear hB5)
          | (go_at_call 16; refine (same_any (unhide HB5)).mono ?_; rintro e w6 ⟨rfl, hb6⟩; have HB6 := hide ((unhide HB5).more hb6); clear hb6))
        go_roundg (gk - 1)
        case measure => omega
        case rel => exact ⟨j + 1, os5, by go_num, by omega, unhide HB6⟩
      · have h3 : decide ((j : Int) < 200) = false := by simpa using h2
        go_wp2_with (first
          | (go_at_call 15; refine (unhide HPL).mono ?_; rintro e w5 ⟨rfl, os5, hB5⟩; have HB5 := hide hB5; clear hB5)
          | (go_at_call 16; refine (same_any (unhide HB5)).mono ?_; rintro e w6 ⟨rfl, hb6⟩; have HB6 := hide ((unhide HB5).more hb6); clear hb6))
        go_roundg (gk - 1)
        case measure => omega
        case rel => exact ⟨j + 1, os5, by go_num, by omega, unhide HB5⟩
    · have hjz : ¬ (j : Int) < (l.length : Int) := by omega
      go_wp2_with (first
        | (go_at_call 16; refine (same_any (unhide HB)).mono ?_; rintro e w6 ⟨rfl, hb6⟩; have HB6 := hide hb6; clear hb6))
      go_ret
      exact ⟨rfl, (unhide HBW).trans ((unhide HB6).mono (unhide HBW).size)⟩
end Go.Proofs.Ytlbkoafeedlfaaa

namespace Go.Proofs.Ytlbkoafeedlfaaa.nodePlays
open Go.ChangeShapes Go.WideShapes Go.ChangeAt Go.RowKit
open Go.ChangeMaps (open_string shut_string)

theorem own : ownKnob Try.prog.godebug = none := by kernel_rfl
theorem laidOut : laidOutB Try.prog = true := by kernel_rfl

set_option maxRecDepth 100000 in
theorem lifted (os : Os) (started : os.Started) (H : Type) (enc : TypeId × Value → H) :
    ReturnsInHanded {} Try.checked os 3 .any (Rows.nodePlaysSpec.pre6 enc Try.prog Try.f3 Rows.nodePlaysRow.domain false) (Rows.nodePlaysSpec.post enc Try.prog Try.f3 false true false false) := by
  refine returnsInHanded_of_change_sized (C := Try.checked) own started (by kernel_rfl) Try.func3
    (ChangeSpec.witness6 (enc := enc) (C := Try.checked) false ⟨#[], #[.slice none 0 0], []⟩ 8 (by kernel_rfl) (by kernel_rfl) (by kernel_rfl) (by kernel_rfl)) ?_
  intro W base args ds gs before hval0 hW hcnd hsz0 _
  have hval : ∀ (j : Nat) t v, Try.f3.params[j]? = some t → args[j]? = some v → Value.okWide Try.prog W .any base t v := hval0
  have hsz : ∀ d, (ds ++ gs)[0]? = some d → (d.weights Try.prog 22).all (· ≤ reachBytes) = true := by
    intro d hd
    refine List.all_eq_true.2 fun n hn => List.all_eq_true.1 hsz0 n ?_
    exact DataW.weights_mem_each (j := 0) (t := 22) (d := d) (by rw [show Try.checked.prog = Try.prog from rfl, Try.params3]; rfl) hd n hn
  have hW' := hW
  obtain ⟨p, q, hA0, hV, rfl, hfz, hnd⟩ := hW
  have hA : DataW.TrodAll enc Try.prog W 0 (fun _ => true) true Try.f3.params.toList args.toList ds p := hA0
  rw [Try.params3] at hA hval
  obtain ⟨v0, vs0, d0, ds0, p0, q0, hargs, rfl, rfl, h0, r0⟩ := trodAll_cons hA
  obtain ⟨rfl, rfl, rfl⟩ := trodAll_nil r0
  obtain rfl : args = #[v0] := by cases args; simp_all
  obtain ⟨rfl, rfl⟩ := trodVars_none hV
  obtain ⟨a0, len0, cap0, rfl⟩ := okWide_slice Try.underlying22 (hval 0 22 v0 rfl rfl)
  have k0 := h0
  have lt0 : ∀ x ∈ p0, x.block < W.heap.size := by obtain ⟨m, hm⟩ := k0; exact DataW.trod_lt m _ _ _ hm
  obtain ⟨l, rfl, hl, hn⟩ := script_open h0 (hsz d0 rfl)
  clear hA0 hval0
  refine (plays_walk a0 cap0 l hl hn).mono fun e W' ⟨he, bel⟩ => ?_
  subst he
  exact ⟨_, rfl, _, _, _, [], _, [], hW', trodAll_mk1 (shut_bool Try.underlying4 _), (trodAll_cons_mk (Below.trod laidOut (by kernel_rfl) (of_decide_eq_true (by kernel_rfl)) k0 bel lt0) trodAll_mk0), rfl, bel.frame _, fun h => by cases h⟩

theorem over : Rows.nodePlaysRow.holds Try.pinned (OpenSpec.ofChange Rows.nodePlaysSpec) :=
  OpenClaim.holds_of_wide 3 Try.f3 rfl rfl rfl rfl rfl rfl rfl ⟨rfl, rfl, rfl, rfl, rfl⟩ rfl rfl rfl rfl rfl (by kernel_rfl) Try.func3 (by kernel_rfl)
    (of_decide_eq_true (by kernel_rfl)) (by unfold Func.isWrapper; first | (rw [if_pos (by decide +kernel)]; kernel_rfl) | (rw [if_neg (by decide +kernel)]; exact ⟨rfl, rfl⟩))
    (fun os started H enc _ => lifted os started H enc)

end Go.Proofs.Ytlbkoafeedlfaaa.nodePlays
namespace Go.Proofs.Ytlbkoafeedlfaaa
theorem nodePlays_holds : Rows.NodePlaysSaid := nodePlays.over
end Go.Proofs.Ytlbkoafeedlfaaa
