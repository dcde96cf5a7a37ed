/-
  The law's awake: a call of the agency that closes the top. AdoptBounded, walked.
-/
import Derived.Test.YtkakncngkmoegaaGreatYXUb
namespace Go.Proofs.YtkakncngkmoegaaGreat
open Go.RowKit Go.Sort

def bB : ByteArray := ⟨#[98]⟩
def actb : ActB := ⟨bB, 0, true, false, false⟩
theorem awake_plain : (runP bB false ⟨(worldB [actb]).os, (worldB [actb]).L, (worldB [actb]).es, 0⟩).2.1 = false ∧ (runP bB false ⟨(worldB [actb]).os, (worldB [actb]).L, (worldB [actb]).es, 0⟩).2.2 = 0 ∧ (runP bB false ⟨(worldB [actb]).os, (worldB [actb]).L, (worldB [actb]).es, 0⟩).1.L = [] := ⟨by kernel_rfl, by kernel_rfl, by kernel_rfl⟩
theorem actb_in (w : World) : ActsB (w.alloc (.cells #[.string bB, .int .i64 0, .bool true, .bool false, .bool false] 74)) (some ⟨w.heap.size, 0, none⟩) [actb] := by
  have hb := heap_alloc_new w (.cells #[.string bB, .int .i64 0, .bool true, .bool false, .bool false] 74)
  refine ⟨fun i x hi => ?_⟩
  match i, hi with
  | 0, hi =>
    simp at hi
    subst hi
    exact ⟨w.heap.size, 0, rfl, cell_of_row _ _ 0 _ _ _ hb, cell_of_row _ _ 1 _ _ _ hb, cell_of_row _ _ 2 _ _ _ hb, cell_of_row _ _ 3 _ _ _ hb, cell_of_row _ _ 4 _ _ _ hb⟩
set_option maxHeartbeats 2000000 in
theorem awake15_any (w : World) : Calls Tryz.prog 11 #[] w fun e w' => e = .returned (.bool true) ∧ Below w.heap.size w w' := by
  obtain ⟨W0, hW0⟩ : ∃ W0, w.alloc (.cells #[.string bB, .int .i64 0, .bool true, .bool false, .bool false] 74) = W0 := ⟨_, rfl⟩
  have hbel : Below w.heap.size w W0 := by rw [← hW0]; exact below_newAc _ _
  have HB := hide (build_any W0 (some ⟨w.heap.size, 0, none⟩) [actb] 1 (by rw [← hW0]; exact actb_in w) (by simp))
  have hbi := BI.all [actb] 1 (by omega) (by simp)
  rw [show ([actb] : List ActB).take 1 = [actb] from rfl] at hbi
  rw [show ([actb] : List ActB).take 100 = [actb] from rfl] at HB
  have HRN := hide (fun (W : World) (bA bK bL : Nat) (tail : List (Ob W0.heap.size)) (hW : Env W0 W (aO _ bA (worldB [actb]).os :: stOb _ bK bA (keysO (worldB [actb]).os) (worldB [actb]).L :: liOb _ bL bA (worldB [actb]).es :: tail)) => aRun_any hW hbi.inv (by omega) bB false)
  rw [awake_plain.1, awake_plain.2.1] at HRN
  have HZ := hide awake_plain.2.2
  have HBE := hide hbel
  clear hbi hbel
  unfold ptr3 at HB
  have HCL : Hid (∀ (W : World) (os : List OneM) (L : List Int) (es : List EntM) (bA bK bL bA' bK' KX : Nat) (o1 o2 o3 o4 : Ob W0.heap.size), Env W0 W [aO _ bA' os, stOb _ bK' bA' (keysO os) L, liOb _ bL bA' es, o1, o2, o3, blkOb _ KX #[.pointer (some ⟨bA, 0, none⟩), .pointer (some ⟨bK, 0, none⟩), .pointer (some ⟨bL, 0, none⟩)] 28, o4] → W.cell? ⟨KX, 0, none⟩ = some (.pointer (some ⟨bA, 0, none⟩)) ∧ W.cell? ⟨KX, 1, none⟩ = some (.pointer (some ⟨bK, 0, none⟩)) ∧ W.cell? ⟨KX, 2, none⟩ = some (.pointer (some ⟨bL, 0, none⟩))) := hide (fun W os L es bA bK bL bA' bK' KX o1 o2 o3 o4 hW => by
    have hb := hW.block (i := 6) (K := KX) (cs := #[.pointer (some ⟨bA, 0, none⟩), .pointer (some ⟨bK, 0, none⟩), .pointer (some ⟨bL, 0, none⟩)]) (t := 28) rfl
    exact ⟨cell_of_row _ _ 0 _ _ _ hb, cell_of_row _ _ 1 _ _ _ hb, cell_of_row _ _ 2 _ _ _ hb⟩)
  generalize worldB [actb] = sb at *
  generalize (runP bB false ⟨sb.os, sb.L, sb.es, 0⟩).1 = sr at *
  unfold bB at *
  go_enter Tryz.func11, Tryz.ntmps11
  go_wp2_with (first
    | (go_at_call 7; subst hW0; refine (unhide HB).mono ?_; rintro e w1 ⟨bA, bK, bL, bR, bW, bQ, rfl, he⟩; have he2 := (he.boxed #[.pointer (some ⟨bA, 0, none⟩), .pointer (some ⟨bK, 0, none⟩), .pointer (some ⟨bL, 0, none⟩)] 28).boxed #[.pointer (some ⟨bR, 0, none⟩), .pointer (some ⟨bW, 0, none⟩), .pointer (some ⟨bQ, 0, none⟩)] 33; have HE := hide he2; obtain ⟨x0, x1, x2⟩ := (unhide HCL) _ _ _ _ _ _ _ _ _ _ _ _ _ _ he2; clear he he2)
    | (go_at_call 8; refine ((unhide HRN) _ _ _ _ _ (unhide HE)).mono ?_; rintro e w2 ⟨rfl, he2⟩; have HE2 := hide he2; clear x0 x1 x2; obtain ⟨x0, x1, x2⟩ := (unhide HCL) _ _ _ _ _ _ _ _ _ _ _ _ _ _ he2; clear he2)
    | (go_at_call 13; refine (env_len (j := 1) (unhide HE2) rfl).mono ?_; rintro e w3 ⟨rfl, rfl⟩; rw [unhide HZ]))
  go_ret
  exact ⟨rfl, (unhide HBE).trans ((unhide HE2).bel.mono (unhide HBE).size)⟩
end Go.Proofs.YtkakncngkmoegaaGreat

namespace Go.Proofs.YtkakncngkmoegaaGreat
open Go.RowKit Go.Sort

theorem BI.some (l : List ActB) : ∃ m, m ≤ 100 ∧ BI (worldB (l.take 100)) m := by
  by_cases h : 100 ≤ l.length
  · exact ⟨100, Nat.le_refl _, BI.all l 100 (by omega) h⟩
  · refine ⟨l.length, by omega, ?_⟩
    have := BI.all l l.length (by omega) (Nat.le_refl _)
    rw [List.take_length] at this
    rw [List.take_of_length_le (by omega)]
    exact this
/-- What stands on the stack is an element. -/
theorem stack_el {os : List OneM} {L : List Int} (hg : Good (keysO os) L) {i : Nat} (hi : i < L.length) : ∃ (k : Nat) (o : OneM), atM L (i : Int) = (k : Int) ∧ os[k]? = some o ∧ o.kind = 1 := by
  have hel := hg.el _ (mem_at hi)
  obtain ⟨k, e, hk⟩ := elOf_nat hel
  rw [keysO_len] at hk
  have ho : os[k]? = some os[k] := List.getElem?_eq_getElem hk
  refine ⟨k, os[k], e, ho, ?_⟩
  have hky : keyAt (keysO os) (k : Int) = some (keyO os[k]) := by simp [keyAt, keysO, ho]
  rw [e, elOf_key hky] at hel
  split at hel
  · assumption
  · cases hel
theorem entry_el {os : List OneM} {x : EntM} (h : EntOk (keysO os) x) : x.node = -1 ∨ ∃ (k : Nat) (o : OneM), x.node = (k : Int) ∧ os[k]? = some o ∧ o.kind = 1 ∧ o.name = x.tok.name := by
  rcases h with e | ⟨hk, _, _⟩
  · exact .inl e
  · right
    obtain ⟨k, e, hq⟩ := keyAt_some hk
    unfold keysO at hq
    rw [List.getElem?_map] at hq
    cases ho : os[k]? with
    | none => rw [ho] at hq; cases hq
    | some o =>
      rw [ho] at hq
      simp only [Option.map_some, Option.some.injEq] at hq
      exact ⟨k, o, e, ho, by rw [show o.kind = (keyO o).kind from rfl, hq], by rw [show o.name = (keyO o).name from rfl, hq]⟩
theorem put10 {W : World} {b : Nat} {z0 z1 z2 z3 z4 z5 z6 z7 z8 z9 : Value} {t : TypeId} (h : W.heap[b]? = some (.cells #[z0, z1, z2, z3, z4, z5, z6, z7, z8, z9] t (0, 0))) (v0 v1 v2 v3 v4 v5 v6 v7 v8 v9 : Value) : ((((((((((W.setCell ⟨b, 0, none⟩ v0).setCell ⟨b, 1, none⟩ v1).setCell ⟨b, 2, none⟩ v2).setCell ⟨b, 3, none⟩ v3).setCell ⟨b, 4, none⟩ v4).setCell ⟨b, 5, none⟩ v5).setCell ⟨b, 6, none⟩ v6).setCell ⟨b, 7, none⟩ v7).setCell ⟨b, 8, none⟩ v8).setCell ⟨b, 9, none⟩ v9).heap[b]? = some (.cells #[v0, v1, v2, v3, v4, v5, v6, v7, v8, v9] t (0, 0)) :=
  run_whole b [v0, v1, v2, v3, v4, v5, v6, v7, v8, v9] W _ t h rfl
theorem env_latU {w wx : World} {obs : List (Ob w.heap.size)} {j bL bA : Nat} {es : List EntM} (h : Env w wx obs) (hj : obs[j]? = some (liOb _ bL bA es)) (i : Nat) {x : EntM} (hi : es[i]? = some x) : Calls Tryz.prog 17 #[.pointer (some ⟨bL, 0, none⟩), .int .i64 i] wx fun e w' => ∃ ao ac, e = .returned (.tuple #[entV x (.slice ao x.tok.attrs.length ac), .int .i64 0]) ∧ Below wx.heap.size wx w' := by
  obtain ⟨F, ⟨bW, v, ps, R, hm, hF⟩, h3⟩ := h.li hj
  exact (lat_yes hm i hi).mono fun _ _ ⟨a, b, c, _, e⟩ => ⟨a, b, c, e⟩
section
variable {w wx : World} {bA bK bL : Nat} {os : List OneM} {L : List Int} {tail : List (Ob w.heap.size)}
theorem env_satU (h : Env w wx (aO _ bA os :: stOb _ bK bA (keysO os) L :: tail)) (i : Int) : Calls Tryz.prog 15 #[.pointer (some ⟨bK, 0, none⟩), .int .i64 i] wx fun e w' => e = .returned (.int .i64 (atM L i)) ∧ wx = w' := by
  obtain ⟨FA, F, h1, h2, _⟩ := Env.as (i := 0) (j := 1) h rfl rfl (by decide)
  exact sat_any h2 i
end
set_option maxHeartbeats 4000000 in
set_option maxRecDepth 100000 in
theorem bounded_walk (l : List ActB) (a : Option Addr) (cap : Nat) (name : ByteArray) (fo : Bool) (w : World) (hin : ActsB w a l) (hl : l.length ≤ 140737488351232) : Calls Tryz.prog 4 #[.slice a l.length cap, .string name, .bool fo] w fun e w' => e = .returned (.bool true) ∧ Below w.heap.size w w' := by
  have HB := hide (build_any w a l cap hin hl)
  obtain ⟨m, hm, hbi⟩ := BI.some l
  have hfew := hbi.inv.few
  simp only at hfew
  generalize worldB (l.take 100) = sb at *
  obtain ⟨os, L, es, qs⟩ := sb
  simp only at *
  have hinv : Inv ⟨os, L, es, 0⟩ os.length := ⟨hbi.inv.good, hbi.inv.ent, Nat.le_refl _, hbi.inv.less, hbi.inv.one⟩
  have hok := runP_ok hinv (by omega) (by simp) name fo
  have HRN := hide (fun (W : World) (bA bK bL : Nat) (tail : List (Ob w.heap.size)) (hW : Env w W (aO _ bA os :: stOb _ bK bA (keysO os) L :: liOb _ bL bA es :: tail)) => aRun_any hW hinv (by omega) name fo)
  generalize hR : runP name fo ⟨os, L, es, 0⟩ = R at *
  obtain ⟨st, an, er⟩ := R
  simp only at *
  have her0 : ¬ er < 0 := by omega
  have her9 : ¬ (9 : Int) < er := by omega
  have hosl : (os.length : Int) ≤ 201 := by omega
  have hlw : IntKind.i64.wrap ((os.length : Int) + 64) = (os.length : Int) + 64 := wrap_small (by omega) (by omega)
  have hll : ¬ ((os.length : Int) + 64 < (st.os.length : Int)) := by have := hok.1.few; omega
  have HINV := hide hok.1
  have HLL : Hid (st.L.length ≤ 32768 ∧ st.es.length ≤ 100000) := hide ⟨by have h1 := hok.1.good.len; rw [keysO_len] at h1; have := hok.1.few; omega, hok.1.less⟩
  unfold ptr3 at HB
  have HAW := hide (fun W => awake15_any W)
  have HAL := hide (fun (W : World) (obs : List (Ob w.heap.size)) (bA : Nat) (o : List OneM) (hW : Env w W obs) (hj : obs[0]? = some (aO _ bA o)) => alen_any (i := 0) hW hj)
  clear hbi hfew hinv hok hR hm hin hl
  go_enter Tryz.func4, Tryz.ntmps4
  go_wp2_with (first
    | (go_at_call 7; refine (unhide HB).mono ?_; rintro e w1 ⟨bA, bK, bL, bR, bW, bQ, rfl, he⟩; have he2 := (he.boxed #[.pointer (some ⟨bA, 0, none⟩), .pointer (some ⟨bK, 0, none⟩), .pointer (some ⟨bL, 0, none⟩)] 28).boxed #[.pointer (some ⟨bR, 0, none⟩), .pointer (some ⟨bW, 0, none⟩), .pointer (some ⟨bQ, 0, none⟩)] 33; have HE := hide he2; have hb6 := he2.block (i := 6) (K := w1.heap.size) (cs := #[.pointer (some ⟨bA, 0, none⟩), .pointer (some ⟨bK, 0, none⟩), .pointer (some ⟨bL, 0, none⟩)]) (t := 28) rfl; have x0 := cell_of_row _ _ 0 _ _ _ hb6; have x1 := cell_of_row _ _ 1 _ _ _ hb6; have x2 := cell_of_row _ _ 2 _ _ _ hb6; clear he he2 hb6)
    | (have _x := unhide HE2; clear _x; go_at_call 12; refine ((unhide HAL) _ _ _ _ (unhide HE2) rfl).mono ?_; rintro e w4 ⟨rfl, rfl⟩)
    | (go_at_call 12; refine ((unhide HAL) _ _ _ _ (unhide HE) rfl).mono ?_; rintro e w3 ⟨rfl, rfl⟩)
    | (go_at_call 8; refine ((unhide HRN) _ _ _ _ _ (unhide HE)).mono ?_; rintro e w2 ⟨rfl, he2⟩; have HE2 := hide he2; have hb6 := he2.block (i := 6) (K := w1.heap.size) (cs := #[.pointer (some ⟨bA, 0, none⟩), .pointer (some ⟨bK, 0, none⟩), .pointer (some ⟨bL, 0, none⟩)]) (t := 28) rfl; clear x0 x1 x2; have x0 := cell_of_row _ _ 0 _ _ _ hb6; have x1 := cell_of_row _ _ 1 _ _ _ hb6; have x2 := cell_of_row _ _ 2 _ _ _ hb6; clear he2 hb6))
  obtain ⟨tl, htl⟩ : ∃ tl : List (Ob w.heap.size), [rO _ bR os, rsO _ bW bR L, qOb w bQ bR qs, blkOb _ w1.heap.size #[.pointer (some ⟨bA, 0, none⟩), .pointer (some ⟨bK, 0, none⟩), .pointer (some ⟨bL, 0, none⟩)] 28, blkOb _ (w1.alloc (.cells #[.pointer (some ⟨bA, 0, none⟩), .pointer (some ⟨bK, 0, none⟩), .pointer (some ⟨bL, 0, none⟩)] 28)).heap.size #[.pointer (some ⟨bR, 0, none⟩), .pointer (some ⟨bW, 0, none⟩), .pointer (some ⟨bQ, 0, none⟩)] 33] = tl := ⟨_, rfl⟩
  have HST : Hid (Env w w2 (aO _ bA st.os :: stOb _ bK bA (keysO st.os) st.L :: liOb _ bL bA st.es :: tl)) := hide (by rw [← htl]; exact unhide HE2)
  have HCL : Hid (∀ (W : World), Env w W (aO _ bA st.os :: stOb _ bK bA (keysO st.os) st.L :: liOb _ bL bA st.es :: tl) → W.cell? ⟨w1.heap.size, 0, none⟩ = some (.pointer (some ⟨bA, 0, none⟩)) ∧ W.cell? ⟨w1.heap.size, 1, none⟩ = some (.pointer (some ⟨bK, 0, none⟩)) ∧ W.cell? ⟨w1.heap.size, 2, none⟩ = some (.pointer (some ⟨bL, 0, none⟩))) := hide (fun W hW => by
    rw [← htl] at hW
    have hb := hW.block (i := 6) (K := w1.heap.size) (cs := #[.pointer (some ⟨bA, 0, none⟩), .pointer (some ⟨bK, 0, none⟩), .pointer (some ⟨bL, 0, none⟩)]) (t := 28) rfl
    exact ⟨cell_of_row _ _ 0 _ _ _ hb, cell_of_row _ _ 1 _ _ _ hb, cell_of_row _ _ 2 _ _ _ hb⟩)
  clear HE HE2 htl HB HRN HAL her0 her9 hosl hlw hll x0 x1 x2
  have HSLEN := hide (fun (W : World) (hW : Env w W (aO _ bA st.os :: stOb _ bK bA (keysO st.os) st.L :: liOb _ bL bA st.es :: tl)) => env_len (j := 1) hW rfl)
  have HSAT := hide (fun (W : World) (i : Int) (hW : Env w W (aO _ bA st.os :: stOb _ bK bA (keysO st.os) st.L :: liOb _ bL bA st.es :: tl)) => env_satU hW i)
  have HND := hide (fun (W : World) (k : Nat) (o : OneM) (ho : st.os[k]? = some o) (hW : Env w W (aO _ bA st.os :: stOb _ bK bA (keysO st.os) st.L :: liOb _ bL bA st.es :: tl)) => anode_in (i := 0) hW rfl ho)
  generalize hsl : st.L.length = sl at *
  go_loopg [13] sl (fun g s13 wr => ∃ i : Nat, i + g = sl ∧ s13 = .int .i64 i ∧ Env w wr (aO _ bA st.os :: stOb _ bK bA (keysO st.os) st.L :: liOb _ bL bA st.es :: tl))
  case atStart => exact ⟨0, by omega, rfl, unhide HST⟩
  case round =>
    obtain ⟨i, hig, rfl, hE⟩ := hrel
    obtain ⟨x0, x1, x2⟩ := (unhide HCL) _ hE
    have HE1 := hide hE
    clear hE HST
    by_cases hi : i < sl
    · have hiz : (i : Int) < (sl : Int) := by omega
      obtain ⟨k, o, hk, ho, hkind⟩ := stack_el (unhide HINV).good (i := i) (by omega)
      have hiw : IntKind.i64.wrap ((i : Int) + 1) = (i : Int) + 1 := by have := (unhide HLL).1; exact wrap_small (by omega) (by omega)
      have HSA := hide (fun W hW => (unhide HSAT) W (i : Int) hW)
      rw [hk] at HSA
      have HNO := hide (fun W hW => (unhide HND) W k o ho hW)
      have HKD := hide hkind
      clear ho hk hkind
      have HS : Hid (∀ W', Below wr.heap.size wr W' → W'.cell? ⟨w1.heap.size, 0, none⟩ = some (.pointer (some ⟨bA, 0, none⟩)) ∧ W'.cell? ⟨w1.heap.size, 1, none⟩ = some (.pointer (some ⟨bK, 0, none⟩))) := hide (fun W' hb => by
        have := (unhide HCL) _ ((unhide HE1).more hb)
        exact ⟨this.1, this.2.1⟩)
      have HB0 := hide (Below.refl wr.heap.size wr)
      have HLE := hide (Nat.le_refl wr.heap.size)
      go_wp2_with (first
        | (go_at_call 13; refine ((unhide HSLEN) _ (unhide HE1)).mono ?_; rintro e w3 ⟨rfl, rfl⟩))
      go_region_held3 (fun W' => W'.cell? ⟨w1.heap.size, 0, none⟩ = some (.pointer (some ⟨bA, 0, none⟩)) ∧ W'.cell? ⟨w1.heap.size, 1, none⟩ = some (.pointer (some ⟨bK, 0, none⟩))) ((refine (unhide HS) _ ?_; repeat' (with_reducible (first | exact unhide HB0 | exact unhide HB4 | exact unhide HLE | exact unhide HLE4 | apply balloc | apply bdrew | apply bput)))) (first
        | (go_at_call 15; refine ((unhide HSA) _ (by with_reducible (first | exact unhide HE1 | exact (unhide HE1).more (Below.refl _ _).drew | exact (unhide HE1).more (below_newAc _ _) | exact ((unhide HE1).more (below_newAc _ _)).more (Below.refl _ _).drew))).mono ?_; rintro e w3 ⟨rfl, rfl⟩)
        | (go_at_call 14; refine ((unhide HNO) _ (by with_reducible (first | exact unhide HE1 | exact (unhide HE1).more (Below.refl _ _).drew | exact (unhide HE1).more (below_newAc _ _) | exact ((unhide HE1).more (below_newAc _ _)).more (Below.refl _ _).drew))).mono ?_; rintro e w4 ⟨nn, ao, m2, c2, rfl, hn, hb4⟩; obtain ⟨nk, nsp, nm, av, da, sy, pa, fi, la, pr, ne, inn, att⟩ := nn; obtain rfl : nk = (1 : Int) := hn.same.kind.trans (unhide HKD); have HB4 : Hid (Below wr.heap.size wr w4) := hide (by first | exact hb4 | exact (bdrew (Below.refl _ _)).trans (hb4.mono (bdrew (Below.refl _ _)).size) | exact (balloc (Below.refl _ _)).trans (hb4.mono (balloc (Below.refl _ _)).size) | exact (bdrew (balloc (Below.refl _ _))).trans (hb4.mono (bdrew (balloc (Below.refl _ _))).size)); have HLE4 := hide (unhide HB4).size; simp only [nodeV, NodeM.cells]; (first | (have nx : Nx wr w4 := (Nx.new wr).more hb4; obtain ⟨a0, a1, a2, a3, a4, a5, a6, a7, a8, a9, a10, a11, af⟩ := nx.cells; have f0 := af 0; have f1 := af 1; have f2 := af 2; have f3 := af 3; have f4 := af 4; have f5 := af 5; have f6 := af 6; have f7 := af 7; have f8 := af 8; have f9 := af 9; have f10 := af 10; have f11 := af 11; clear nx af) | (have nx : Nx wr w4 := ((Nx.new wr).more (Below.refl _ _).drew).more hb4; obtain ⟨a0, a1, a2, a3, a4, a5, a6, a7, a8, a9, a10, a11, af⟩ := nx.cells; have f0 := af 0; have f1 := af 1; have f2 := af 2; have f3 := af 3; have f4 := af 4; have f5 := af 5; have f6 := af 6; have f7 := af 7; have f8 := af 8; have f9 := af 9; have f10 := af 10; have f11 := af 11; clear nx af) | skip); clear hn hb4))
      all_goals go_wp2
      all_goals go_roundg (gk - 1)
      all_goals (first | omega | exact ⟨i + 1, by omega, by simp, (unhide HE1).more (by repeat' (with_reducible (first | exact unhide HB0 | exact unhide HB4 | exact unhide HLE | exact unhide HLE4 | apply balloc | apply bdrew | apply bput)))⟩)
    · have hiz : ¬ (i : Int) < (sl : Int) := by omega
      clear HSAT HND hsl
      have HLLEN := hide (fun (W : World) (hW : Env w W (aO _ bA st.os :: stOb _ bK bA (keysO st.os) st.L :: liOb _ bL bA st.es :: tl)) => env_llen (j := 2) hW rfl)
      go_wp2_with (first
        | (go_at_call 13; refine ((unhide HSLEN) _ (unhide HE1)).mono ?_; rintro e w3 ⟨rfl, rfl⟩))
      have HE0 := hide (unhide HE1)
      clear HE1 x0 x1 x2 hiz hig hi
      generalize hel : st.es.length = el at *
      go_loopg [16] el (fun g s16 wr => ∃ i2 : Nat, i2 + g = el ∧ s16 = .int .i64 i2 ∧ Env w wr (aO _ bA st.os :: stOb _ bK bA (keysO st.os) st.L :: liOb _ bL bA st.es :: tl))
      case atStart => exact ⟨0, by omega, rfl, unhide HE0⟩
      case round =>
        obtain ⟨i2, hig, rfl, hE⟩ := hrel
        obtain ⟨x0, x1, x2⟩ := (unhide HCL) _ hE
        have HE1 := hide hE
        clear hE HE0
        by_cases hi : i2 < el
        · have hiz : (i2 : Int) < (el : Int) := by omega
          have hiw : IntKind.i64.wrap ((i2 : Int) + 1) = (i2 : Int) + 1 := by have := (unhide HLL).2; exact wrap_small (by omega) (by omega)
          obtain ⟨x, hx⟩ : ∃ x, st.es[i2]? = some x := ⟨_, List.getElem?_eq_getElem (by omega)⟩
          have hen := entry_el ((unhide HINV).ent x (List.mem_of_getElem? hx))
          have HAT := hide (fun W (hW : Env w W (aO _ bA st.os :: stOb _ bK bA (keysO st.os) st.L :: liOb _ bL bA st.es :: tl)) => env_latU (j := 2) hW rfl i2 hx)
          obtain ⟨xn, xsp, xnm, ⟨t0, t1, t2, t3, t4, t5, t6, t7, ta⟩⟩ := x
          simp only [entV, TokM.cells] at HAT
          simp only at hen
          generalize ta.length = tal at *
          clear hx
          go_wp2_with (first
            | (go_at_call 16; refine ((unhide HLLEN) _ (unhide HE1)).mono ?_; rintro e w3 ⟨rfl, rfl⟩)
            | (go_at_call 17; refine ((unhide HAT) _ (unhide HE1)).mono ?_; rintro e w5 ⟨ao, ac, rfl, hb5⟩; have HE6 := hide (((unhide HE1).more hb5).more (below_newAc w5 (.cells #[.int .i64 xn, .int .i64 t0, .string t1, .string t2, .string t3, .int .i64 t4, .bool t5, .int .i32 t6, .bool t7, .slice ao tal ac] 54))); have hT := heap_alloc_new w5 (.cells #[.int .i64 xn, .int .i64 t0, .string t1, .string t2, .string t3, .int .i64 t4, .bool t5, .int .i32 t6, .bool t7, .slice ao tal ac] 54); clear x0 x1 x2 hb5; obtain ⟨x0, x1, x2⟩ := (unhide HCL) _ (unhide HE6)))
          obtain ⟨KT, hKT⟩ : ∃ KT, w5.heap.size = KT := ⟨_, rfl⟩
          rw [hKT] at hT ⊢
          generalize w5.alloc (.cells #[.int .i64 xn, .int .i64 t0, .string t1, .string t2, .string t3, .int .i64 t4, .bool t5, .int .i32 t6, .bool t7, .slice ao tal ac] 54) = W6 at *
          have HT := hide hT
          have HS : Hid (∀ W' : World, Below W6.heap.size W6 W' → W'.cell? ⟨w1.heap.size, 0, none⟩ = some (.pointer (some ⟨bA, 0, none⟩)) ∧ W'.cell? ⟨KT, 0, none⟩ = some (.int .i64 xn)) := hide (fun W' hb => ⟨((unhide HCL) _ ((unhide HE6).more hb)).1, cell_of_row _ _ 0 _ _ _ (kept_oldK (unhide HT) hb)⟩)
          have HTT : Hid (∀ W' : World, Below W6.heap.size W6 W' → W'.cell? ⟨KT, 0, none⟩ = some (.int .i64 xn) ∧ W'.cell? ⟨KT, 2, none⟩ = some (.string t1)) := hide (fun W' hb => ⟨cell_of_row _ _ 0 _ _ _ (kept_oldK (unhide HT) hb), cell_of_row _ _ 2 _ _ _ (kept_oldK (unhide HT) hb)⟩)
          have HB0 := hide (Below.refl W6.heap.size W6)
          have HLE := hide (Nat.le_refl W6.heap.size)
          have k0 := cell_of_row _ _ 0 _ _ _ hT
          have k2 := cell_of_row _ _ 2 _ _ _ hT
          clear hT hKT
          rcases hen with hxm | ⟨k, o, hxk, ho, hkind, hname⟩
          · subst hxm
            have HNO := hide (fun W (hW : Env w W (aO _ bA st.os :: stOb _ bK bA (keysO st.os) st.L :: liOb _ bL bA st.es :: tl)) => anode_no (i := 0) hW rfl (k := -1) (by simp [hasO]))
            unfold nodeZ at HNO
            go_wp2_with (first
              | (go_at_call 14; refine ((unhide HNO) _ (unhide HE6)).mono ?_; rintro e w7 ⟨rfl, hb7⟩; have HE7 := hide ((unhide HE6).more hb7); have HB7 := hide hb7; (first | (have kk := (unhide HTT) _ (balloc hb7 (o := .cells #[.int .i64 0, .int .i64 0, .string ⟨#[]⟩, .slice none 0 0, .string ⟨#[]⟩, .string ⟨#[]⟩, .int .i64 0, .int .i64 0, .int .i64 0, .int .i64 0, .int .i64 0, .int .i64 0] 47)); obtain ⟨kk0, kk2⟩ := kk) | skip); clear hb7 k0 k2))
            go_roundg (gk - 1)
            case measure => omega
            case rel => exact ⟨i2 + 1, by omega, by simp, (unhide HE6).more (balloc (unhide HB7))⟩
          · subst hxk
            have HNO := hide (fun W (hW : Env w W (aO _ bA st.os :: stOb _ bK bA (keysO st.os) st.L :: liOb _ bL bA st.es :: tl)) => anode_in (i := 0) hW rfl ho)
            have HKD := hide (And.intro hkind hname)
            have hk1 : ((k : Int) == -1) = false := by simp
            have hk2 : ((k : Int) != -1) = true := by simp
            clear ho hkind hname
            go_wp2_with (first
              | (go_at_call 14; refine ((unhide HNO) _ (unhide HE6)).mono ?_; rintro e w7 ⟨nn, aa, m2, c2, rfl, hn, hb7⟩; obtain ⟨nk, nsp, nm, av, da, sy, pa, fi, la, pr, ne, inn, att⟩ := nn; obtain rfl : nk = (1 : Int) := hn.same.kind.trans (unhide HKD).1; obtain rfl : nm = t1 := hn.same.name.trans (unhide HKD).2; simp only [nodeV, NodeM.cells]; have HB7 := hide hb7; (first | (have kk := (unhide HTT) _ (balloc hb7 (o := .cells #[.int .i64 1, .int .i64 nsp, .string nm, .slice aa m2 c2, .string da, .string sy, .int .i64 pa, .int .i64 fi, .int .i64 la, .int .i64 pr, .int .i64 ne, .int .i64 inn] 47)); obtain ⟨kk0, kk2⟩ := kk) | skip); clear hn hb7 k0 k2))
            go_roundg (gk - 1)
            case measure => omega
            case rel => exact ⟨i2 + 1, by omega, by simp, (unhide HE6).more (balloc (unhide HB7))⟩
        · have hiz : ¬ (i2 : Int) < (el : Int) := by omega
          have HBE := hide (unhide HE1).bel
          go_wp2_with (first
            | (go_at_call 16; refine ((unhide HLLEN) _ (unhide HE1)).mono ?_; rintro e w3 ⟨rfl, rfl⟩)
            | (go_at_call 11; refine ((unhide HAW) _).mono ?_; rintro e w8 ⟨rfl, hb8⟩; have HB8 := hide hb8; clear hb8))
          go_ret
          exact ⟨rfl, (unhide HBE).trans ((unhide HB8).mono (unhide HBE).size)⟩
end Go.Proofs.YtkakncngkmoegaaGreat
