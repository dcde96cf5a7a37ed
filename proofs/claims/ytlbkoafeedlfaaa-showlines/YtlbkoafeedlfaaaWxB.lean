/-
  Proved: a tree of elements without attributes and templates is shown as so many lines as it has nodes below the document, each with two blanks more than its parent's: ShowLines returns true for every list of bytes, and changes nothing.
  Conditions: none beyond the given row's own.
-/
import Derived.Test.YtlbkoafeedlfaaaWxA
import Derived.Test.YtlbkoafeedlfaaaWb
import Derived.Lib.IndexBytes
import Derived.Test.YtlbkoafeedlfaaaRows
import Derived.ProofKit
import Derived.OpenShut
import Derived.ChangeOld
import Derived.Deep.Slices
import Derived.SizedLaws
namespace Go.Proofs.Ytlbkoafeedlfaaa
open Go.RowKit

set_option maxHeartbeats 4000000 in
theorem each1 {sb B a : Nat} {W0 w : World} {base bA : Nat} {ns : List NodeM} {os : List OneM} {us : List Nat} {ds : List Int} {F0 : Nat → Prop} (hA : ArS W0 base bA ns F0) (hs : Sim ns os) (hb : Built os us) (hd : DepOk us ds) (hus : us.length ≤ 100)
    (hW : Below W0.heap.size W0 w) (hB : W0.heap.size ≤ B) (h : X1 sb B a 0 0 w) (L : List Nat) (hL : PathOf (nextF ns) (headI L) L) (hLd : ∀ j ∈ L, 0 < j ∧ j < os.length ∧ ds[j]? = some (0 : Int)) (hLn : (L.flatMap (TR os)).length ≤ 100) (hLs : ((L.flatMap (TR os)).map (fw ds)).sum ≤ 100000) (hbd : a ≤ 100000) :
    Calls Try.prog 73 #[.pointer (some ⟨bA, 0, none⟩), .int .i64 (headI L), .func (.func 74) #[] #[.pointer (some ⟨sb, 0, none⟩)]] w fun e w' => e = .returned (.tuple #[]) ∧ X1 sb B a ((L.flatMap (TR os)).map (fw ds)).sum (L.flatMap (TR os)).length w' ∧ Kept (fun k => k = sb ∨ k = sb) B w w' := by
  obtain ⟨tot, htot⟩ : ∃ tot, ((L.flatMap (TR os)).map (fw ds)).sum = tot := ⟨_, rfl⟩
  obtain ⟨cn, hcn⟩ : ∃ cn, (L.flatMap (TR os)).length = cn := ⟨_, rfl⟩
  rw [htot] at hLs ⊢
  rw [hcn] at hLn ⊢
  have HA := hide hA
  have HSIM := hide hs
  have HBT := hide hb
  have HDP := hide hd
  have HW0 := hide hW
  have HBB := hide hB
  have HX0 := hide h
  have HUS := hide hus
  have HBD := hide (And.intro hLs (And.intro hLn hbd))
  have hst0 : StS (w.alloc (.cells #[.slice none 0 0] 149 (0, 0))) w.heap.size w.heap.size 149 152 2 ([] : List (List Nat × Nat)).length (cellsS []) (fun k => k = w.heap.size) :=
    ⟨.slice none 0 0, ⟨heap_alloc_new _ _, World.ownsRow_nil _ _ _ _, Nat.le_refl _, by decide⟩, fun k => by simp [Value.ownBlock]⟩
  have HPUT := hide (put_spot hst0 (by simp) L 0)
  have HK0 : Hid (Kept (fun k => k = sb ∨ k = sb) B w (w.alloc (.cells #[.slice none 0 0] 149 (0, 0)))) := hide (Kept.of_below ((Below.refl _ w).alloc (Nat.le_refl _) _) h.size)
  have HXA := hide (h.below ((Below.refl _ w).alloc (Nat.le_refl _) (.cells #[.slice none 0 0] 149 (0, 0))))
  have HG0 : Hid (GoodS ns os ds (putS [] L 0)) := hide (GoodS.put (fun e he => by cases he) hL hLd)
  have HR0 : Hid (restS os (putS [] L 0) = L.flatMap (TR os)) := hide (by rw [rest_put]; rfl)
  have HCN := hide hcn
  have HTOT := hide htot
  have HST0 := hide hst0
  clear hA hs hb hd hus hW hB h hL hLd hLn hLs hbd hst0 hcn htot
  go_enter Try.func73, Try.ntmps73
  set_option maxRecDepth 10000 in
  go_wp2_with (go_at_call 112; refine (unhide HPUT).mono ?_; rintro e w1 ⟨rfl, hu1⟩; have HU1 := hide hu1; clear hu1)
  go_loopg [] cn (fun k wx => Hid (∃ E F A C, (restS os E).length = k ∧ StS wx w.heap.size w.heap.size 149 152 2 E.length (cellsS E) F ∧ GoodS ns os ds E ∧ A + ((restS os E).map (fw ds)).sum = tot ∧ C + (restS os E).length = cn ∧ X1 sb B a A C wx ∧ Kept (fun k => k = sb ∨ k = sb) B w wx))
  case atStart =>
    obtain ⟨F1, h1, h2, h3⟩ := unhide HU1
    refine hide ⟨_, F1, 0, 0, by rw [unhide HR0, unhide HCN], h1, unhide HG0, by rw [unhide HR0, unhide HTOT, Nat.zero_add], by rw [unhide HR0, unhide HCN, Nat.zero_add], ?_, ?_⟩
    · refine (unhide HXA).mod h2 (fun k hk e => ?_) (fun k hk => (unhide HST0).kinds (by decide) (by decide) hk)
      have := (unhide HX0).lt k e
      omega
    · exact (unhide HK0).mod h2 (fun k hk => by omega) (unhide HX0).size
  case round =>
    clear HU1 HPUT HK0 HXA HG0 HR0 HST0
    obtain ⟨E, F, A, C, hk, hst, hgood, hA, hC, hx, hkept⟩ := unhide hrel
    clear hrel
    have HST := hide hst
    have HGD := hide hgood
    have HX := hide hx
    have HK := hide hkept
    have HSUM := hide (And.intro hk (And.intro hA hC))
    clear hst hgood hx hkept hk hA hC
    rcases List.eq_nil_or_concat E with rfl | ⟨E', ⟨L', d⟩, hE⟩
    · have HEM := hide (empty_spot (unhide HST))
      go_wp2_with (go_at_call 114; refine (unhide HEM).mono ?_; rintro e w2 ⟨rfl, rfl⟩)
      go_end0
      obtain ⟨_, q2, q3⟩ := unhide HSUM
      have e1 : A = tot := by simpa [restS] using q2
      have e2 : C = cn := by simpa [restS] using q3
      subst e1 e2
      exact ⟨rfl, unhide HX, unhide HK⟩
    · rw [List.concat_eq_append] at hE
      subst hE
      obtain ⟨hne, hpath, hdep⟩ := (unhide HGD) (L', d) (by simp)
      obtain ⟨j, R, rfl⟩ : ∃ j R, L' = j :: R := by
        cases L' with
        | nil => exact absurd rfl hne
        | cons j R => exact ⟨j, R, rfl⟩
      obtain ⟨hj0, hjl, hjd⟩ := hdep j (by simp)
      obtain ⟨o, ho, hok, hosp, hon, hoa, hoi⟩ : ∃ o, os[j]? = some o ∧ o.kind = 1 ∧ o.space = 0 ∧ o.name = nameX ∧ o.attrs = [] ∧ o.inner = -1 := by
        cases j with
        | zero => omega
        | succ i =>
          have hi : i < us.length := by have := (unhide HBT).len; omega
          obtain ⟨_, o, ho, r1, r2, r3, r4, r5, _⟩ := (unhide HBT).node i _ (List.getElem?_eq_getElem hi)
          exact ⟨o, ho, r1, r2, r3, r4, r5⟩
      obtain ⟨n, hn, sm⟩ := (unhide HSIM).get ho
      obtain ⟨_, mx, hmx, hpr⟩ := hpath
      have hnx : n.next = headI R := by
        have e1 : mx = n.next := by unfold nextF at hmx; rw [hn] at hmx; exact (Option.some.inj hmx).symm
        rw [← e1]; exact path_first hpr
      have hfp := first_path (unhide HSIM) hn ho
      have hfi := path_first hfp
      have hkid : ∀ c ∈ o.kids, 0 < c ∧ c < os.length ∧ ds[c]? = some ((d + 1 : Nat) : Int) := by
        intro c hc
        have h1 := (unhide HBT).kids_dep (unhide HSIM) (unhide HDP) ho hjd c hc
        obtain ⟨m, hm, hup⟩ := (unhide HSIM).down j o c ho hc
        refine ⟨?_, (List.getElem?_eq_some_iff.1 hm).1, by rw [h1]; simp⟩
        cases c with
        | zero =>
          obtain ⟨q, hq, _, hqu, _⟩ := (unhide HBT).root
          rw [hm] at hq; cases hq; omega
        | succ c => omega
      have HNO : Hid (∀ W, Below W0.heap.size W0 W → Calls Try.prog 18 #[.pointer (some ⟨bA, 0, none⟩), .int .i64 (j : Int)] W fun e w' => ∃ a c, e = .returned (.tuple #[.agg #[.int .i64 1, .int .i64 0, .string ⟨#[120]⟩, .slice a 0 c, .string n.data, .string n.system, .int .i64 n.parent, .int .i64 (headI o.kids), .int .i64 n.last, .int .i64 n.prev, .int .i64 (headI R), .int .i64 (-1)], .int .i64 0]) ∧ Below W.heap.size W w') := hide (fun W hW => (nodeA (unhide HA) hW hn).mono (by
        rintro e w' ⟨a, c, rfl, _, hb⟩
        refine ⟨a, c, ?_, hb⟩
        rw [sm.kind, sm.space, sm.name, sm.attrs, sm.inner, hok, hosp, hon, hoa, hoi, hfi, hnx]
        rfl))
      have hd1000 : d ≤ 1000 := by have := (unhide HBT).dep_le (unhide HDP) j _ hjd; have := (unhide HBT).len; have := unhide HUS; omega
      have HD1 := hide hd1000
      have hdz : (d : Int) ≤ 1000 := by omega
      have HGE : Hid (GoodS ns os ds (putS (putS E' R d) o.kids (d + 1))) := hide (by
        have g1 : GoodS ns os ds E' := fun e he => (unhide HGD) e (List.mem_append_left _ he)
        refine (g1.put (by rw [← hnx]; rw [hnx]; rw [path_first hpr] at hpr; exact hpr) (fun q hq => hdep q (List.mem_cons_of_mem _ hq))).put (by rw [← hfi]; exact hfp) hkid)
      have HRE : Hid (restS os (putS (putS E' R d) o.kids (d + 1)) = restS os E' ++ R.flatMap (TR os) ++ o.kids.flatMap (TR os)) := hide (by rw [rest_put, rest_put])
      have HTRJ : Hid (restS os (E' ++ [(j :: R, d)]) = restS os E' ++ (j :: o.kids.flatMap (TR os)) ++ R.flatMap (TR os)) := hide (by
        unfold restS
        rw [List.flatMap_append]
        simp only [List.flatMap_cons, List.flatMap_nil, List.append_nil]
        rw [TR_some (unhide HSIM) ho]
        unfold belowO innerL
        rw [if_pos hoi, List.append_nil, List.append_assoc])
      have HFW : Hid (fw ds j = 6 + 2 * d) := hide (by unfold fw; rw [hjd]; simp)
      have HLE : Hid (E'.length ≤ 5000) := hide (by
        have q1 := rest_ge (unhide HSIM) _ (unhide HGD)
        have q2 := (unhide HSUM).2.2
        have q3 := (unhide HBD).2.1
        rw [List.length_append] at q1
        omega)
      have HST' : Hid (StS wr w.heap.size w.heap.size 149 152 2 (E'.length + 1) (cellsS E' ++ [.int .i64 (j : Int), .int .i64 (d : Int)]) F) := hide (by
        have := unhide HST
        rw [List.length_append] at this
        have e : cellsS (E' ++ [(j :: R, d)]) = cellsS E' ++ [.int .i64 (j : Int), .int .i64 (d : Int)] := by unfold cellsS; rw [List.flatMap_append]; rfl
        rw [e] at this
        exact this)
      have HEM : Hid (Calls Try.prog 114 #[.pointer (some ⟨w.heap.size, 0, none⟩)] wr fun e w' => e = .returned (.bool false) ∧ wr = w') := hide ((empty_spot (unhide HST)).mono (by
        rintro e w' ⟨rfl, h⟩
        exact ⟨by simp, h⟩))
      have HPOP := hide (pop_spot (unhide HST') (by have := unhide HLE; omega))
      have HFL : Hid (∀ k, F k → w.heap.size ≤ k ∧ k < wr.heap.size) := hide (fun k hk => (unhide HST).lt hk)
      have HKD : Hid (∀ k, F k → ∀ c fz, wr.heap[k]? ≠ some (.cells c 5 fz)) := hide (fun k hk => (unhide HST).kinds (by decide) (by decide) hk)
      have HSX : Hid (∀ k, (fun k => k = sb ∨ k = sb) k → k < w.heap.size) := hide (unhide HX0).lt
      have HAB : Hid (a + A ≤ 900000) := hide (by have := (unhide HSUM).2.1; obtain ⟨q1, _, q3⟩ := unhide HBD; omega)
      clear hne hdep hj0 hjl hjd ho hok hosp hon hoa hoi hn sm hmx hpr hnx hfp hfi hkid hd1000 HST HST'
      set_option maxRecDepth 10000 in
      go_wp2_with (first
        | (go_at_call 114; refine (unhide HEM).mono ?_; rintro e w2 ⟨rfl, rfl⟩)
        | (go_at_call 115; refine (unhide HPOP).mono ?_; rintro e w1 ⟨rfl, F1, hst1, hm1, hF1⟩; have HST1 := hide hst1; have HK1 : Hid (Kept (fun k => k = sb ∨ k = sb) B w w1) := hide ((unhide HK).mod hm1 (fun k hk => ((unhide HFL) k hk).1) (unhide HX0).size); have HX1 : Hid (X1 sb B a A C w1) := hide ((unhide HX).mod hm1 (fun k hk e => by have := (unhide HSX) k e; have := ((unhide HFL) k hk).1; omega) (unhide HKD)); have HB1 : Hid (Below W0.heap.size W0 w1) := hide ((unhide HW0).trans ((unhide HK1).below.mono (unhide HBB))); have HFL1 : Hid (∀ k, F1 k → w.heap.size ≤ k ∧ k < w1.heap.size) := hide (fun k hk => hst1.lt hk); clear hst1 hm1 hF1)
        | (go_at_call 18; refine (unhide HNO _ (by exact (unhide HB1).alloc (unhide HB1).size _)).mono ?_; rintro e w2 ⟨a2, c2, rfl, hb2⟩; have hsp2 : w2.heap[w1.heap.size]? = some (.cells #[.int .i64 (j : Int), .int .i64 (d : Int)] 152 (0, 0)) := (hb2.block _ (by simp)).trans (heap_alloc_new _ _); have HSP2 := hide hsp2; have hlt12 : w1.heap.size < w2.heap.size := lt_of_block hsp2; have c20 : w2.cell? ⟨w1.heap.size, 0, none⟩ = some (.int .i64 (j : Int)) := (by simp [World.cell?, hsp2]); have c21 : w2.cell? ⟨w1.heap.size, 1, none⟩ = some (.int .i64 (d : Int)) := (by simp [World.cell?, hsp2]); have HW12 : Hid (Below w1.heap.size w1 w2) := hide (((Below.refl _ w1).alloc (Nat.le_refl _) _).trans (hb2.mono (by simp))); clear hb2 hsp2)
        | (go_at_call 116; refine (tellX1 (A := A) (C := C) (by exact ((unhide HX1).below (unhide HW12)).below ((Below.refl _ w2).alloc (Nat.le_refl _) _)) a2 c2 _ _ _ _ _ _ _ _ d (unhide HD1) (unhide HAB)).mono ?_; rintro e w3 ⟨rfl, hx3, hk3⟩; have hn1 : ¬ (fun k => k = sb ∨ k = sb) w1.heap.size := (fun e => by have := (unhide HSX) _ e; have := (unhide HK1).size; omega); have hn2 : ¬ (fun k => k = sb ∨ k = sb) w2.heap.size := (fun e => by have := (unhide HSX) _ e; have := (unhide HK1).size; omega); have hsp3 : w3.heap[w1.heap.size]? = some (.cells #[.int .i64 (j : Int), .int .i64 (d : Int)] 152 (0, 0)) := hk3.cell (by rw [Below.heap_alloc _ _ _ hlt12]; exact unhide HSP2) hn1 (by decide); have hnd3 : w3.heap[w2.heap.size]? = some (Obj.cells #[.int .i64 1, .int .i64 0, .string ⟨#[120]⟩, .slice a2 0 c2, .string n.data, .string n.system, .int .i64 n.parent, .int .i64 (headI o.kids), .int .i64 n.last, .int .i64 n.prev, .int .i64 (headI R), .int .i64 (-1)] 37 (0, 0)) := hk3.cell (heap_alloc_new _ _) hn2 (by decide); have HSP3 := hide hsp3; have HND3 := hide hnd3; have c31 : w3.cell? ⟨w1.heap.size, 1, none⟩ = some (.int .i64 (d : Int)) := (by simp [World.cell?, hsp3]); have c3a : w3.cell? ⟨w2.heap.size, 10, none⟩ = some (.int .i64 (headI R)) := (by simp [World.cell?, hnd3]); have HX3 := hide hx3; have HST3 : Hid (StS w3 w.heap.size w.heap.size 149 152 2 E'.length (cellsS E') F1) := hide ((((unhide HST1).below (unhide HW12)).below ((Below.refl _ w2).alloc (Nat.le_refl _) (Obj.cells #[.int .i64 1, .int .i64 0, .string ⟨#[120]⟩, .slice a2 0 c2, .string n.data, .string n.system, .int .i64 n.parent, .int .i64 (headI o.kids), .int .i64 n.last, .int .i64 n.prev, .int .i64 (headI R), .int .i64 (-1)] 37 (0, 0)))).kept hk3 (by decide) (by decide) (fun k hk e => by have := (unhide HSX) _ e; have := ((unhide HFL1) k hk).1; omega)); have HK3 : Hid (Kept (fun k => k = sb ∨ k = sb) B w w3) := hide (((unhide HK1).trans (Kept.of_below (((unhide HW12).trans (((Below.refl _ w2).alloc (Nat.le_refl _) (Obj.cells #[.int .i64 1, .int .i64 0, .string ⟨#[120]⟩, .slice a2 0 c2, .string n.data, .string n.system, .int .i64 n.parent, .int .i64 (headI o.kids), .int .i64 n.last, .int .i64 n.prev, .int .i64 (headI R), .int .i64 (-1)] 37 (0, 0))).mono (Nat.le_of_lt hlt12)))) (unhide HX1).size)).trans hk3); clear hx3 hk3 hn1 hn2 hsp3 hnd3)
        | (go_at_call 112; have _x := unhide HX4; refine (put_spotI (unhide HST4) (by have := unhide HLE; have := put_len E' R d; omega) o.kids (d + 1) _ (by simp)).mono ?_; rintro e w5 ⟨rfl, F5, hst5, hm5, hF5⟩; have HST5 := hide hst5; have hnd5 : w5.heap[w2.heap.size]? = some (Obj.cells #[.int .i64 1, .int .i64 0, .string ⟨#[120]⟩, .slice a2 0 c2, .string n.data, .string n.system, .int .i64 n.parent, .int .i64 (headI o.kids), .int .i64 n.last, .int .i64 n.prev, .int .i64 (headI R), .int .i64 (-1)] 37 (0, 0)) := (hm5.block _ (lt_of_block (unhide HND4)) (fun e => (unhide HN4) _ e (.inr rfl))).trans (unhide HND4); have c5b : w5.cell? ⟨w2.heap.size, 11, none⟩ = some (.int .i64 (-1)) := (by simp [World.cell?, hnd5]); have HX5 := hide ((unhide HX4).mod hm5 (fun k hk e => by have := (unhide HSX) _ e; have := ((unhide HST4).lt hk).1; omega) (fun k hk => (unhide HST4).kinds (by decide) (by decide) hk)); have HK5 : Hid (Kept (fun k => k = sb ∨ k = sb) B w w5) := hide ((unhide HK4).mod hm5 (fun k hk => ((unhide HST4).lt hk).1) (unhide HX0).size); clear hst5 hm5 hF5 hnd5)
        | (go_at_call 112; refine (put_spotI (unhide HST3) (by have := unhide HLE; omega) R d _ rfl).mono ?_; rintro e w4 ⟨rfl, F4, hst4, hm4, hF4⟩; have HST4 := hide hst4; have hsp4 : w4.heap[w1.heap.size]? = some (.cells #[.int .i64 (j : Int), .int .i64 (d : Int)] 152 (0, 0)) := (hm4.block _ (lt_of_block (unhide HSP3)) (fun e => by have := ((unhide HFL1) _ e).2; omega)).trans (unhide HSP3); have hnd4 : w4.heap[w2.heap.size]? = some (Obj.cells #[.int .i64 1, .int .i64 0, .string ⟨#[120]⟩, .slice a2 0 c2, .string n.data, .string n.system, .int .i64 n.parent, .int .i64 (headI o.kids), .int .i64 n.last, .int .i64 n.prev, .int .i64 (headI R), .int .i64 (-1)] 37 (0, 0)) := (hm4.block _ (lt_of_block (unhide HND3)) (fun e => by have := ((unhide HFL1) _ e).2; omega)).trans (unhide HND3); have HND4 := hide hnd4; have HN4 : Hid (∀ k, F4 k → ¬ (k = w1.heap.size ∨ k = w2.heap.size)) := hide (fun k hk e => (hF4 k hk).elim (fun h' => by have := ((unhide HFL1) _ h').2; omega) (fun h' => by have := lt_of_block (unhide HSP3); have := lt_of_block (unhide HND3); omega)); have c41 : w4.cell? ⟨w1.heap.size, 1, none⟩ = some (.int .i64 (d : Int)) := (by simp [World.cell?, hsp4]); have c47 : w4.cell? ⟨w2.heap.size, 7, none⟩ = some (.int .i64 (headI o.kids)) := (by simp [World.cell?, hnd4]); have HX4 := hide ((unhide HX3).mod hm4 (fun k hk e => by have := (unhide HSX) _ e; have := ((unhide HFL1) k hk).1; omega) (fun k hk => (unhide HST3).kinds (by decide) (by decide) hk)); have HK4 : Hid (Kept (fun k => k = sb ∨ k = sb) B w w4) := hide ((unhide HK3).mod hm4 (fun k hk => ((unhide HFL1) k hk).1) (unhide HX0).size); clear hst4 hm4 hF4 hsp4 hnd4))
      obtain ⟨q1, q2, q3⟩ := unhide HSUM
      have hR5 := unhide HRE
      have hR0 := unhide HTRJ
      have hlen0 : (restS os (E' ++ [(j :: R, d)])).length = (restS os (putS (putS E' R d) o.kids (d + 1))).length + 1 := by
        rw [hR0, hR5]; simp only [List.length_append, List.length_cons]; omega
      have hsum0 : ((restS os (E' ++ [(j :: R, d)])).map (fw ds)).sum = ((restS os (putS (putS E' R d) o.kids (d + 1))).map (fw ds)).sum + (6 + 2 * d) := by
        rw [hR0, hR5]; simp only [List.map_append, List.map_cons, List.sum_append, List.sum_cons]; rw [unhide HFW]; omega
      go_roundg (gk - 1)
      case measure => omega
      case rel => exact hide ⟨_, F5, A + (6 + 2 * d), C + 1, by omega, unhide HST5, unhide HGE, by omega, by omega, unhide HX5, unhide HK5⟩

set_option maxHeartbeats 4000000 in
theorem each2 {bb kb tb B : Nat} {l : List UInt8} {W0 w : World} {base bA : Nat} {ns : List NodeM} {os : List OneM} {us : List Nat} {ds : List Int} {F0 : Nat → Prop} (hA : ArS W0 base bA ns F0) (hs : Sim ns os) (hb : Built os us) (hd : DepOk us ds) (hus : us.length ≤ 100)
    (hW : Below W0.heap.size W0 w) (hB : W0.heap.size ≤ B) (h : X2 bb kb tb B l 0 0 w) (L : List Nat) (hL : PathOf (nextF ns) (headI L) L) (hLd : ∀ j ∈ L, 0 < j ∧ j < os.length ∧ ds[j]? = some (0 : Int)) (hLn : (L.flatMap (TR os)).length ≤ 100) (hLs : ((L.flatMap (TR os)).map (fw ds)).sum ≤ 100000) (hbd : l.length ≤ 100000) :
    Calls Try.prog 73 #[.pointer (some ⟨bA, 0, none⟩), .int .i64 (headI L), .func (.func 119) #[] #[.pointer (some ⟨kb, 0, none⟩), .pointer (some ⟨tb, 0, none⟩)]] w fun e w' => e = .returned (.tuple #[]) ∧ X2 bb kb tb B l ((L.flatMap (TR os)).map (fw ds)).sum (L.flatMap (TR os)).length w' ∧ Kept (fun k => own3 bb kb k ∨ k = tb) B w w' := by
  obtain ⟨tot, htot⟩ : ∃ tot, ((L.flatMap (TR os)).map (fw ds)).sum = tot := ⟨_, rfl⟩
  obtain ⟨cn, hcn⟩ : ∃ cn, (L.flatMap (TR os)).length = cn := ⟨_, rfl⟩
  rw [htot] at hLs ⊢
  rw [hcn] at hLn ⊢
  have HA := hide hA
  have HSIM := hide hs
  have HBT := hide hb
  have HDP := hide hd
  have HW0 := hide hW
  have HBB := hide hB
  have HX0 := hide h
  have HUS := hide hus
  have HBD := hide (And.intro hLs (And.intro hLn hbd))
  have hst0 : StS (w.alloc (.cells #[.slice none 0 0] 149 (0, 0))) w.heap.size w.heap.size 149 152 2 ([] : List (List Nat × Nat)).length (cellsS []) (fun k => k = w.heap.size) :=
    ⟨.slice none 0 0, ⟨heap_alloc_new _ _, World.ownsRow_nil _ _ _ _, Nat.le_refl _, by decide⟩, fun k => by simp [Value.ownBlock]⟩
  have HPUT := hide (put_spot hst0 (by simp) L 0)
  have HK0 : Hid (Kept (fun k => own3 bb kb k ∨ k = tb) B w (w.alloc (.cells #[.slice none 0 0] 149 (0, 0)))) := hide (Kept.of_below ((Below.refl _ w).alloc (Nat.le_refl _) _) h.size)
  have HXA := hide (h.below ((Below.refl _ w).alloc (Nat.le_refl _) (.cells #[.slice none 0 0] 149 (0, 0))))
  have HG0 : Hid (GoodS ns os ds (putS [] L 0)) := hide (GoodS.put (fun e he => by cases he) hL hLd)
  have HR0 : Hid (restS os (putS [] L 0) = L.flatMap (TR os)) := hide (by rw [rest_put]; rfl)
  have HCN := hide hcn
  have HTOT := hide htot
  have HST0 := hide hst0
  clear hA hs hb hd hus hW hB h hL hLd hLn hLs hbd hst0 hcn htot
  go_enter Try.func73, Try.ntmps73
  set_option maxRecDepth 10000 in
  go_wp2_with (go_at_call 112; refine (unhide HPUT).mono ?_; rintro e w1 ⟨rfl, hu1⟩; have HU1 := hide hu1; clear hu1)
  go_loopg [] cn (fun k wx => Hid (∃ E F A C, (restS os E).length = k ∧ StS wx w.heap.size w.heap.size 149 152 2 E.length (cellsS E) F ∧ GoodS ns os ds E ∧ A + ((restS os E).map (fw ds)).sum = tot ∧ C + (restS os E).length = cn ∧ X2 bb kb tb B l A C wx ∧ Kept (fun k => own3 bb kb k ∨ k = tb) B w wx))
  case atStart =>
    obtain ⟨F1, h1, h2, h3⟩ := unhide HU1
    refine hide ⟨_, F1, 0, 0, by rw [unhide HR0, unhide HCN], h1, unhide HG0, by rw [unhide HR0, unhide HTOT, Nat.zero_add], by rw [unhide HR0, unhide HCN, Nat.zero_add], ?_, ?_⟩
    · refine (unhide HXA).mod h2 (fun k hk e => ?_) (fun k hk => (unhide HST0).kinds (by decide) (by decide) hk)
      have := (unhide HX0).lt k e
      omega
    · exact (unhide HK0).mod h2 (fun k hk => by omega) (unhide HX0).size
  case round =>
    clear HU1 HPUT HK0 HXA HG0 HR0 HST0
    obtain ⟨E, F, A, C, hk, hst, hgood, hA, hC, hx, hkept⟩ := unhide hrel
    clear hrel
    have HST := hide hst
    have HGD := hide hgood
    have HX := hide hx
    have HK := hide hkept
    have HSUM := hide (And.intro hk (And.intro hA hC))
    clear hst hgood hx hkept hk hA hC
    rcases List.eq_nil_or_concat E with rfl | ⟨E', ⟨L', d⟩, hE⟩
    · have HEM := hide (empty_spot (unhide HST))
      go_wp2_with (go_at_call 114; refine (unhide HEM).mono ?_; rintro e w2 ⟨rfl, rfl⟩)
      go_end0
      obtain ⟨_, q2, q3⟩ := unhide HSUM
      have e1 : A = tot := by simpa [restS] using q2
      have e2 : C = cn := by simpa [restS] using q3
      subst e1 e2
      exact ⟨rfl, unhide HX, unhide HK⟩
    · rw [List.concat_eq_append] at hE
      subst hE
      obtain ⟨hne, hpath, hdep⟩ := (unhide HGD) (L', d) (by simp)
      obtain ⟨j, R, rfl⟩ : ∃ j R, L' = j :: R := by
        cases L' with
        | nil => exact absurd rfl hne
        | cons j R => exact ⟨j, R, rfl⟩
      obtain ⟨hj0, hjl, hjd⟩ := hdep j (by simp)
      obtain ⟨o, ho, hok, hosp, hon, hoa, hoi⟩ : ∃ o, os[j]? = some o ∧ o.kind = 1 ∧ o.space = 0 ∧ o.name = nameX ∧ o.attrs = [] ∧ o.inner = -1 := by
        cases j with
        | zero => omega
        | succ i =>
          have hi : i < us.length := by have := (unhide HBT).len; omega
          obtain ⟨_, o, ho, r1, r2, r3, r4, r5, _⟩ := (unhide HBT).node i _ (List.getElem?_eq_getElem hi)
          exact ⟨o, ho, r1, r2, r3, r4, r5⟩
      obtain ⟨n, hn, sm⟩ := (unhide HSIM).get ho
      obtain ⟨_, mx, hmx, hpr⟩ := hpath
      have hnx : n.next = headI R := by
        have e1 : mx = n.next := by unfold nextF at hmx; rw [hn] at hmx; exact (Option.some.inj hmx).symm
        rw [← e1]; exact path_first hpr
      have hfp := first_path (unhide HSIM) hn ho
      have hfi := path_first hfp
      have hkid : ∀ c ∈ o.kids, 0 < c ∧ c < os.length ∧ ds[c]? = some ((d + 1 : Nat) : Int) := by
        intro c hc
        have h1 := (unhide HBT).kids_dep (unhide HSIM) (unhide HDP) ho hjd c hc
        obtain ⟨m, hm, hup⟩ := (unhide HSIM).down j o c ho hc
        refine ⟨?_, (List.getElem?_eq_some_iff.1 hm).1, by rw [h1]; simp⟩
        cases c with
        | zero =>
          obtain ⟨q, hq, _, hqu, _⟩ := (unhide HBT).root
          rw [hm] at hq; cases hq; omega
        | succ c => omega
      have HNO : Hid (∀ W, Below W0.heap.size W0 W → Calls Try.prog 18 #[.pointer (some ⟨bA, 0, none⟩), .int .i64 (j : Int)] W fun e w' => ∃ a c, e = .returned (.tuple #[.agg #[.int .i64 1, .int .i64 0, .string ⟨#[120]⟩, .slice a 0 c, .string n.data, .string n.system, .int .i64 n.parent, .int .i64 (headI o.kids), .int .i64 n.last, .int .i64 n.prev, .int .i64 (headI R), .int .i64 (-1)], .int .i64 0]) ∧ Below W.heap.size W w') := hide (fun W hW => (nodeA (unhide HA) hW hn).mono (by
        rintro e w' ⟨a, c, rfl, _, hb⟩
        refine ⟨a, c, ?_, hb⟩
        rw [sm.kind, sm.space, sm.name, sm.attrs, sm.inner, hok, hosp, hon, hoa, hoi, hfi, hnx]
        rfl))
      have hd1000 : d ≤ 1000 := by have := (unhide HBT).dep_le (unhide HDP) j _ hjd; have := (unhide HBT).len; have := unhide HUS; omega
      have HD1 := hide hd1000
      have hdz : (d : Int) ≤ 1000 := by omega
      have HGE : Hid (GoodS ns os ds (putS (putS E' R d) o.kids (d + 1))) := hide (by
        have g1 : GoodS ns os ds E' := fun e he => (unhide HGD) e (List.mem_append_left _ he)
        refine (g1.put (by rw [← hnx]; rw [hnx]; rw [path_first hpr] at hpr; exact hpr) (fun q hq => hdep q (List.mem_cons_of_mem _ hq))).put (by rw [← hfi]; exact hfp) hkid)
      have HRE : Hid (restS os (putS (putS E' R d) o.kids (d + 1)) = restS os E' ++ R.flatMap (TR os) ++ o.kids.flatMap (TR os)) := hide (by rw [rest_put, rest_put])
      have HTRJ : Hid (restS os (E' ++ [(j :: R, d)]) = restS os E' ++ (j :: o.kids.flatMap (TR os)) ++ R.flatMap (TR os)) := hide (by
        unfold restS
        rw [List.flatMap_append]
        simp only [List.flatMap_cons, List.flatMap_nil, List.append_nil]
        rw [TR_some (unhide HSIM) ho]
        unfold belowO innerL
        rw [if_pos hoi, List.append_nil, List.append_assoc])
      have HFW : Hid (fw ds j = 6 + 2 * d) := hide (by unfold fw; rw [hjd]; simp)
      have HLE : Hid (E'.length ≤ 5000) := hide (by
        have q1 := rest_ge (unhide HSIM) _ (unhide HGD)
        have q2 := (unhide HSUM).2.2
        have q3 := (unhide HBD).2.1
        rw [List.length_append] at q1
        omega)
      have HST' : Hid (StS wr w.heap.size w.heap.size 149 152 2 (E'.length + 1) (cellsS E' ++ [.int .i64 (j : Int), .int .i64 (d : Int)]) F) := hide (by
        have := unhide HST
        rw [List.length_append] at this
        have e : cellsS (E' ++ [(j :: R, d)]) = cellsS E' ++ [.int .i64 (j : Int), .int .i64 (d : Int)] := by unfold cellsS; rw [List.flatMap_append]; rfl
        rw [e] at this
        exact this)
      have HEM : Hid (Calls Try.prog 114 #[.pointer (some ⟨w.heap.size, 0, none⟩)] wr fun e w' => e = .returned (.bool false) ∧ wr = w') := hide ((empty_spot (unhide HST)).mono (by
        rintro e w' ⟨rfl, h⟩
        exact ⟨by simp, h⟩))
      have HPOP := hide (pop_spot (unhide HST') (by have := unhide HLE; omega))
      have HFL : Hid (∀ k, F k → w.heap.size ≤ k ∧ k < wr.heap.size) := hide (fun k hk => (unhide HST).lt hk)
      have HKD : Hid (∀ k, F k → ∀ c fz, wr.heap[k]? ≠ some (.cells c 5 fz)) := hide (fun k hk => (unhide HST).kinds (by decide) (by decide) hk)
      have HSX : Hid (∀ k, (fun k => own3 bb kb k ∨ k = tb) k → k < w.heap.size) := hide (unhide HX0).lt
      have HAB : Hid (l.length + A ≤ 900000) := hide (by have := (unhide HSUM).2.1; obtain ⟨q1, _, q3⟩ := unhide HBD; omega)
      clear hne hdep hj0 hjl hjd ho hok hosp hon hoa hoi hn sm hmx hpr hnx hfp hfi hkid hd1000 HST HST'
      set_option maxRecDepth 10000 in
      go_wp2_with (first
        | (go_at_call 114; refine (unhide HEM).mono ?_; rintro e w2 ⟨rfl, rfl⟩)
        | (go_at_call 115; refine (unhide HPOP).mono ?_; rintro e w1 ⟨rfl, F1, hst1, hm1, hF1⟩; have HST1 := hide hst1; have HK1 : Hid (Kept (fun k => own3 bb kb k ∨ k = tb) B w w1) := hide ((unhide HK).mod hm1 (fun k hk => ((unhide HFL) k hk).1) (unhide HX0).size); have HX1 : Hid (X2 bb kb tb B l A C w1) := hide ((unhide HX).mod hm1 (fun k hk e => by have := (unhide HSX) k e; have := ((unhide HFL) k hk).1; omega) (unhide HKD)); have HB1 : Hid (Below W0.heap.size W0 w1) := hide ((unhide HW0).trans ((unhide HK1).below.mono (unhide HBB))); have HFL1 : Hid (∀ k, F1 k → w.heap.size ≤ k ∧ k < w1.heap.size) := hide (fun k hk => hst1.lt hk); clear hst1 hm1 hF1)
        | (go_at_call 18; refine (unhide HNO _ (by exact (unhide HB1).alloc (unhide HB1).size _)).mono ?_; rintro e w2 ⟨a2, c2, rfl, hb2⟩; have hsp2 : w2.heap[w1.heap.size]? = some (.cells #[.int .i64 (j : Int), .int .i64 (d : Int)] 152 (0, 0)) := (hb2.block _ (by simp)).trans (heap_alloc_new _ _); have HSP2 := hide hsp2; have hlt12 : w1.heap.size < w2.heap.size := lt_of_block hsp2; have c20 : w2.cell? ⟨w1.heap.size, 0, none⟩ = some (.int .i64 (j : Int)) := (by simp [World.cell?, hsp2]); have c21 : w2.cell? ⟨w1.heap.size, 1, none⟩ = some (.int .i64 (d : Int)) := (by simp [World.cell?, hsp2]); have HW12 : Hid (Below w1.heap.size w1 w2) := hide (((Below.refl _ w1).alloc (Nat.le_refl _) _).trans (hb2.mono (by simp))); clear hb2 hsp2)
        | (go_at_call 116; refine (tellX2 (A := A) (C := C) (by exact ((unhide HX1).below (unhide HW12)).below ((Below.refl _ w2).alloc (Nat.le_refl _) _)) a2 c2 _ _ _ _ _ _ _ _ d (unhide HD1) (unhide HAB)).mono ?_; rintro e w3 ⟨rfl, hx3, hk3⟩; have hn1 : ¬ (fun k => own3 bb kb k ∨ k = tb) w1.heap.size := (fun e => by have := (unhide HSX) _ e; have := (unhide HK1).size; omega); have hn2 : ¬ (fun k => own3 bb kb k ∨ k = tb) w2.heap.size := (fun e => by have := (unhide HSX) _ e; have := (unhide HK1).size; omega); have hsp3 : w3.heap[w1.heap.size]? = some (.cells #[.int .i64 (j : Int), .int .i64 (d : Int)] 152 (0, 0)) := hk3.cell (by rw [Below.heap_alloc _ _ _ hlt12]; exact unhide HSP2) hn1 (by decide); have hnd3 : w3.heap[w2.heap.size]? = some (Obj.cells #[.int .i64 1, .int .i64 0, .string ⟨#[120]⟩, .slice a2 0 c2, .string n.data, .string n.system, .int .i64 n.parent, .int .i64 (headI o.kids), .int .i64 n.last, .int .i64 n.prev, .int .i64 (headI R), .int .i64 (-1)] 37 (0, 0)) := hk3.cell (heap_alloc_new _ _) hn2 (by decide); have HSP3 := hide hsp3; have HND3 := hide hnd3; have c31 : w3.cell? ⟨w1.heap.size, 1, none⟩ = some (.int .i64 (d : Int)) := (by simp [World.cell?, hsp3]); have c3a : w3.cell? ⟨w2.heap.size, 10, none⟩ = some (.int .i64 (headI R)) := (by simp [World.cell?, hnd3]); have HX3 := hide hx3; have HST3 : Hid (StS w3 w.heap.size w.heap.size 149 152 2 E'.length (cellsS E') F1) := hide ((((unhide HST1).below (unhide HW12)).below ((Below.refl _ w2).alloc (Nat.le_refl _) (Obj.cells #[.int .i64 1, .int .i64 0, .string ⟨#[120]⟩, .slice a2 0 c2, .string n.data, .string n.system, .int .i64 n.parent, .int .i64 (headI o.kids), .int .i64 n.last, .int .i64 n.prev, .int .i64 (headI R), .int .i64 (-1)] 37 (0, 0)))).kept hk3 (by decide) (by decide) (fun k hk e => by have := (unhide HSX) _ e; have := ((unhide HFL1) k hk).1; omega)); have HK3 : Hid (Kept (fun k => own3 bb kb k ∨ k = tb) B w w3) := hide (((unhide HK1).trans (Kept.of_below (((unhide HW12).trans (((Below.refl _ w2).alloc (Nat.le_refl _) (Obj.cells #[.int .i64 1, .int .i64 0, .string ⟨#[120]⟩, .slice a2 0 c2, .string n.data, .string n.system, .int .i64 n.parent, .int .i64 (headI o.kids), .int .i64 n.last, .int .i64 n.prev, .int .i64 (headI R), .int .i64 (-1)] 37 (0, 0))).mono (Nat.le_of_lt hlt12)))) (unhide HX1).size)).trans hk3); clear hx3 hk3 hn1 hn2 hsp3 hnd3)
        | (go_at_call 112; have _x := unhide HX4; refine (put_spotI (unhide HST4) (by have := unhide HLE; have := put_len E' R d; omega) o.kids (d + 1) _ (by simp)).mono ?_; rintro e w5 ⟨rfl, F5, hst5, hm5, hF5⟩; have HST5 := hide hst5; have hnd5 : w5.heap[w2.heap.size]? = some (Obj.cells #[.int .i64 1, .int .i64 0, .string ⟨#[120]⟩, .slice a2 0 c2, .string n.data, .string n.system, .int .i64 n.parent, .int .i64 (headI o.kids), .int .i64 n.last, .int .i64 n.prev, .int .i64 (headI R), .int .i64 (-1)] 37 (0, 0)) := (hm5.block _ (lt_of_block (unhide HND4)) (fun e => (unhide HN4) _ e (.inr rfl))).trans (unhide HND4); have c5b : w5.cell? ⟨w2.heap.size, 11, none⟩ = some (.int .i64 (-1)) := (by simp [World.cell?, hnd5]); have HX5 := hide ((unhide HX4).mod hm5 (fun k hk e => by have := (unhide HSX) _ e; have := ((unhide HST4).lt hk).1; omega) (fun k hk => (unhide HST4).kinds (by decide) (by decide) hk)); have HK5 : Hid (Kept (fun k => own3 bb kb k ∨ k = tb) B w w5) := hide ((unhide HK4).mod hm5 (fun k hk => ((unhide HST4).lt hk).1) (unhide HX0).size); clear hst5 hm5 hF5 hnd5)
        | (go_at_call 112; refine (put_spotI (unhide HST3) (by have := unhide HLE; omega) R d _ rfl).mono ?_; rintro e w4 ⟨rfl, F4, hst4, hm4, hF4⟩; have HST4 := hide hst4; have hsp4 : w4.heap[w1.heap.size]? = some (.cells #[.int .i64 (j : Int), .int .i64 (d : Int)] 152 (0, 0)) := (hm4.block _ (lt_of_block (unhide HSP3)) (fun e => by have := ((unhide HFL1) _ e).2; omega)).trans (unhide HSP3); have hnd4 : w4.heap[w2.heap.size]? = some (Obj.cells #[.int .i64 1, .int .i64 0, .string ⟨#[120]⟩, .slice a2 0 c2, .string n.data, .string n.system, .int .i64 n.parent, .int .i64 (headI o.kids), .int .i64 n.last, .int .i64 n.prev, .int .i64 (headI R), .int .i64 (-1)] 37 (0, 0)) := (hm4.block _ (lt_of_block (unhide HND3)) (fun e => by have := ((unhide HFL1) _ e).2; omega)).trans (unhide HND3); have HND4 := hide hnd4; have HN4 : Hid (∀ k, F4 k → ¬ (k = w1.heap.size ∨ k = w2.heap.size)) := hide (fun k hk e => (hF4 k hk).elim (fun h' => by have := ((unhide HFL1) _ h').2; omega) (fun h' => by have := lt_of_block (unhide HSP3); have := lt_of_block (unhide HND3); omega)); have c41 : w4.cell? ⟨w1.heap.size, 1, none⟩ = some (.int .i64 (d : Int)) := (by simp [World.cell?, hsp4]); have c47 : w4.cell? ⟨w2.heap.size, 7, none⟩ = some (.int .i64 (headI o.kids)) := (by simp [World.cell?, hnd4]); have HX4 := hide ((unhide HX3).mod hm4 (fun k hk e => by have := (unhide HSX) _ e; have := ((unhide HFL1) k hk).1; omega) (fun k hk => (unhide HST3).kinds (by decide) (by decide) hk)); have HK4 : Hid (Kept (fun k => own3 bb kb k ∨ k = tb) B w w4) := hide ((unhide HK3).mod hm4 (fun k hk => ((unhide HFL1) k hk).1) (unhide HX0).size); clear hst4 hm4 hF4 hsp4 hnd4))
      obtain ⟨q1, q2, q3⟩ := unhide HSUM
      have hR5 := unhide HRE
      have hR0 := unhide HTRJ
      have hlen0 : (restS os (E' ++ [(j :: R, d)])).length = (restS os (putS (putS E' R d) o.kids (d + 1))).length + 1 := by
        rw [hR0, hR5]; simp only [List.length_append, List.length_cons]; omega
      have hsum0 : ((restS os (E' ++ [(j :: R, d)])).map (fw ds)).sum = ((restS os (putS (putS E' R d) o.kids (d + 1))).map (fw ds)).sum + (6 + 2 * d) := by
        rw [hR0, hR5]; simp only [List.map_append, List.map_cons, List.sum_append, List.sum_cons]; rw [unhide HFW]; omega
      go_roundg (gk - 1)
      case measure => omega
      case rel => exact hide ⟨_, F5, A + (6 + 2 * d), C + 1, by omega, unhide HST5, unhide HGE, by omega, by omega, unhide HX5, unhide HK5⟩

end Go.Proofs.Ytlbkoafeedlfaaa

namespace Go.Proofs.Ytlbkoafeedlfaaa
open Go.RowKit

theorem writer_at (bb : Nat) (w : World) : Calls Try.prog 77 #[.pointer (some ⟨bb, 0, none⟩)] w fun e w' => e = .returned (.func (.func 119) #[] #[.pointer (some ⟨w.heap.size + 1, 0, none⟩), .pointer (some ⟨w.heap.size, 0, none⟩)]) ∧ w' = (w.alloc (.cells #[.pointer (some ⟨bb, 0, none⟩)] 115)).alloc (.cells #[.string ⟨#[32, 32]⟩] 9) := by
  go_enter Try.func77, Try.ntmps77
  go_wp2
  go_ret
  exact ⟨rfl, rfl⟩

theorem sum_le {f : Nat → Nat} {c : Nat} : ∀ (l : List Nat), (∀ k ∈ l, f k ≤ c) → (l.map f).sum ≤ c * l.length
  | [], _ => by simp
  | k :: l, h => by
    have h1 := sum_le l (fun q hq => h q (List.mem_cons_of_mem _ hq))
    have h2 := h k (by simp)
    rw [List.map_cons, List.sum_cons, List.length_cons, Nat.mul_add]
    omega
theorem Built.small {os : List OneM} {us : List Nat} {ds : List Int} (h : Built os us) (hd : DepOk us ds) (hus : us.length ≤ 100) : ((List.range us.length).map (fun k => fw ds (k + 1))).sum ≤ 100000 := by
  have := sum_le (f := fun k => fw ds (k + 1)) (c := 300) (List.range us.length) (fun k hk => by
    have hk2 := List.mem_range.1 hk
    have hlt : k + 1 < ds.length := by rw [hd.len]; omega
    have := h.dep_le hd (k + 1) _ (List.getElem?_eq_getElem hlt)
    unfold fw
    rw [List.getElem?_eq_getElem hlt, Option.getD_some]
    omega)
  rw [List.length_range] at this
  omega

theorem text_start {w : World} {bb : Nat} (h : Lib.BuilderAt 117 5 bb bb (.pointer (some ⟨bb, 0, none⟩)) [] w) :
    X2 bb (w.heap.size + 1) w.heap.size bb [] 0 0 ((w.alloc (.cells #[.pointer (some ⟨bb, 0, none⟩)] 115)).alloc (.cells #[.string ⟨#[32, 32]⟩] 9)) := by
  have hF := Lib.BuilderAtF.of h
  obtain ⟨_, v, hv, _⟩ := id h
  have hlt : bb < w.heap.size := lt_of_block hv
  have hbl : Below w.heap.size w ((w.alloc (.cells #[.pointer (some ⟨bb, 0, none⟩)] 115)).alloc (.cells #[.string ⟨#[32, 32]⟩] 9)) := ((Below.refl _ w).alloc (Nat.le_refl _) _).alloc (by simp) _
  refine ⟨[], ⟨2, ⟨builder_keep hF (hbl.block bb hlt) (fun k c fz hc => (hbl.block k (lt_of_block hc)).trans hc), heap_alloc2_new _ _ _, heap_alloc2_old _ _ _, by omega, by omega, by omega, by omega, by omega, by omega, by simp; omega⟩⟩, rfl, rfl⟩

set_option maxHeartbeats 4000000 in
theorem show_lines {w : World} {base bA : Nat} {ns : List NodeM} {os : List OneM} {us : List Nat} {ds : List Int} {F : Nat → Prop} (hA : ArS w base bA ns F) (hs : Sim ns os) (hb : Built os us) (hd : DepOk us ds) (hus : us.length ≤ 100) :
    Calls Try.prog 28 #[.pointer (some ⟨bA, 0, none⟩), .int .i64 0] w fun e w' => ∃ s : ByteArray, e = .returned (.tuple #[.string s, .int .i64 0]) ∧ s.size = ((List.range us.length).map (fun k => fw ds (k + 1))).sum ∧ cnt10 s.data.toList = us.length ∧ Below w.heap.size w w' := by
  obtain ⟨o, ho, hok, hou, hoh, hoi⟩ := hb.root
  obtain ⟨n, hn, sm⟩ := hs.get ho
  have hfp := first_path hs hn ho
  have hfi := path_first hfp
  obtain ⟨ht1, ht2⟩ := hb.total hs (fw ds) ho
  have hkid : ∀ c ∈ o.kids, 0 < c ∧ c < os.length ∧ ds[c]? = some (0 : Int) := by
    intro c hc
    have h1 := hb.kids_dep hs hd ho hd.zero c hc
    obtain ⟨m, hm, hup⟩ := hs.down 0 o c ho hc
    refine ⟨?_, (List.getElem?_eq_some_iff.1 hm).1, h1⟩
    cases c with
    | zero => rw [hm] at ho; cases ho; omega
    | succ c => omega
  have hsm := hb.small hd hus
  rw [← ht1] at hsm ⊢
  have HN := hide (nodeA hA (Below.refl _ w) hn)
  rw [hfi] at HN
  have HE1 : Hid (∀ (W : World) (sb : Nat), Below w.heap.size w W → X1 sb w.heap.size 0 0 0 W → Calls Try.prog 73 #[.pointer (some ⟨bA, 0, none⟩), .int .i64 (headI o.kids), .func (.func 74) #[] #[.pointer (some ⟨sb, 0, none⟩)]] W fun e w' => e = .returned (.tuple #[]) ∧ X1 sb w.heap.size 0 ((o.kids.flatMap (TR os)).map (fw ds)).sum (o.kids.flatMap (TR os)).length w' ∧ Kept (fun k => k = sb ∨ k = sb) w.heap.size W w') := hide (fun W sb hW hX =>
    each1 hA hs hb hd hus hW (Nat.le_refl _) hX o.kids (by rw [← hfi]; exact hfp) hkid (by rw [ht2]; exact hus) hsm (by omega))
  have HE2 : Hid (∀ (W : World) (bb kb tb : Nat), w.heap.size ≤ bb → Below w.heap.size w W → X2 bb kb tb bb [] 0 0 W → Calls Try.prog 73 #[.pointer (some ⟨bA, 0, none⟩), .int .i64 (headI o.kids), .func (.func 119) #[] #[.pointer (some ⟨kb, 0, none⟩), .pointer (some ⟨tb, 0, none⟩)]] W fun e w' => e = .returned (.tuple #[]) ∧ X2 bb kb tb bb [] ((o.kids.flatMap (TR os)).map (fw ds)).sum (o.kids.flatMap (TR os)).length w' ∧ Kept (fun k => own3 bb kb k ∨ k = tb) bb W w') := hide (fun W bb kb tb hbb hW hX =>
    each2 hA hs hb hd hus hW hbb hX o.kids (by rw [← hfi]; exact hfp) hkid (by rw [ht2]; exact hus) hsm (by simp))
  generalize ((o.kids.flatMap (TR os)).map (fw ds)).sum = tot at HE1 HE2 hsm ⊢
  rw [ht2] at HE1 HE2
  have htz : (tot : Int) ≤ 100000 := by omega
  generalize headI o.kids = fst at HN HE1 HE2
  clear hA hs hb hd ho hok hou hoh hoi hn sm hfp hfi ht1 ht2 hkid
  go_enter Try.func28, Try.ntmps28
  set_option maxRecDepth 10000 in
  go_wp2_with (first
    | (go_at_call 18; refine (unhide HN).mono ?_; rintro e w1 ⟨a1, c1, rfl, hat, hb1⟩; have HB1 := hide hb1; have hz1 := hb1.size; clear hat hb1)
    | (go_at_call 73; refine (unhide HE1 _ _ (by exact ((unhide HB1).alloc hz1 _).alloc (by simp; omega) _) (by exact ⟨heap_alloc2_new _ _ _, by omega⟩)).mono ?_; rintro e w2 ⟨rfl, hx2, hk2⟩; have hsb : w2.heap[w1.heap.size + 1]? = some (.cells #[.int .i64 (tot : Int)] 3 (0, 0)) := (by have := hx2.1; unfold SizeAt at this; rw [Nat.zero_add] at this; exact this); have hs21 : w1.heap.size + 1 < w2.heap.size := lt_of_block hsb; have hs20 : w1.heap.size < w2.heap.size := (by omega); have csb : w2.cell? ⟨w1.heap.size + 1, 0, none⟩ = some (.int .i64 (tot : Int)) := (by simp [World.cell?, hsb]); have hnd2 : w2.heap[w1.heap.size]? = some (Obj.cells #[.int .i64 n.kind, .int .i64 n.space, .string n.name, .slice a1 n.attrs.length c1, .string n.data, .string n.system, .int .i64 n.parent, .int .i64 fst, .int .i64 n.last, .int .i64 n.prev, .int .i64 n.next, .int .i64 n.inner] 37 (0, 0)) := hk2.cell (heap_alloc2_old _ _ _) (fun e => by omega) (by decide); have HND2 := hide hnd2; have HB2 : Hid (Below w.heap.size w w2) := hide ((((unhide HB1).alloc hz1 _).alloc (by simp; omega) _).trans hk2.below); clear hx2 hk2 hsb hnd2)
    | (go_at_call 76; refine (Try.Builder_Grow_fresh w2.heap.size w2.heap.size tot _ (Nat.le_refl _) (by exact heap_alloc_new _ _) (by simp) (by omega)).mono ?_; rintro e w3 ⟨rfl, hbu3, hb3⟩; have HBU3 := hide hbu3; have hnd3 : w3.heap[w1.heap.size]? = some (Obj.cells #[.int .i64 n.kind, .int .i64 n.space, .string n.name, .slice a1 n.attrs.length c1, .string n.data, .string n.system, .int .i64 n.parent, .int .i64 fst, .int .i64 n.last, .int .i64 n.prev, .int .i64 n.next, .int .i64 n.inner] 37 (0, 0)) := (hb3.block _ hs20).trans (by rw [Below.heap_alloc _ _ _ hs20]; exact unhide HND2); have HND3 := hide hnd3; have HC3 : Hid (w3.cell? ⟨w1.heap.size, 7, none⟩ = some (.int .i64 fst)) := hide (by simp [World.cell?, hnd3]); have HB3 : Hid (Below w.heap.size w w3) := hide (((unhide HB2).alloc (unhide HB2).size _).trans (hb3.mono (unhide HB2).size)); clear hbu3 hb3 hnd3))
  go_region_held3 (fun w' => w'.cell? ⟨w1.heap.size, 7, none⟩ = some (.int .i64 fst)) (first | exact unhide HC3 | exact unhide HC4 | exact unhide HC5) (first
    | (go_at_call 77; refine (writer_at _ _).mono ?_; rintro e w4 ⟨rfl, hw4⟩; have HX4 : Hid (X2 w2.heap.size (w3.heap.size + 1) w3.heap.size w2.heap.size [] 0 0 w4) := hide (by rw [hw4]; exact text_start (w := w3.drew) (unhide HBU3)); have HB34 : Hid (Below w3.heap.size w3 w4) := hide (by rw [hw4]; exact ((Below.refl _ w3).drew.alloc (Nat.le_refl _) _).alloc (by simp) _); have HC4 : Hid (w4.cell? ⟨w1.heap.size, 7, none⟩ = some (.int .i64 fst)) := hide (by have := ((unhide HB34).block _ (lt_of_block (unhide HND3))).trans (unhide HND3); simp [World.cell?, this]); clear hw4)
    | (go_at_call 73; refine (unhide HE2 _ w2.heap.size _ _ (unhide HB2).size (by exact (unhide HB3).trans ((unhide HB34).mono (unhide HB3).size)) (unhide HX4)).mono ?_; rintro e w5 ⟨rfl, ⟨T, ⟨m5, ht5⟩, hT, hC⟩, hk5⟩; have HT5 := hide ht5; have HTC := hide (And.intro hT hC); have HB5 : Hid (Below w.heap.size w w5) := hide (((unhide HB3).trans ((unhide HB34).mono (unhide HB3).size)).trans (hk5.below.mono (unhide HB2).size)); have HC5 : Hid (w5.cell? ⟨w1.heap.size, 7, none⟩ = some (.int .i64 fst)) := hide (by have h4 := ((unhide HB34).block _ (lt_of_block (unhide HND3))).trans (unhide HND3); have hl3 := lt_of_block (unhide HND3); have h5 := hk5.cell h4 (fun e => by rcases e with (e | e) | e <;> omega) (by decide); simp [World.cell?, h5]); clear ht5 hT hC hk5))
  go_wp2_with (go_at_call 78; refine (Try.Builder_String_any_f w2.heap.size w2.heap.size ([] ++ T) _ (.inr (unhide HT5).text) (unhide HT5).base).mono ?_; rintro e w6 ⟨rfl, _, hb6⟩; have HB6 : Hid (Below w.heap.size w w6) := hide ((unhide HB5).trans (hb6.mono (unhide HB2).size)); clear hb6)
  go_ret2
  refine ⟨⟨([] ++ T).toArray⟩, rfl, ?_, ?_, unhide HB6⟩
  · rw [← (unhide HTC).1]; show ([] ++ T).toArray.size = T.length; simp
  · exact (unhide HTC).2
end Go.Proofs.Ytlbkoafeedlfaaa

namespace Go.Proofs.Ytlbkoafeedlfaaa
open Go.RowKit

def BytesIn (w : World) (a : Option Addr) (l : List Int) : Prop := ∀ (i : Nat) x, l[i]? = some x → (∃ b off, a = some ⟨b, off, none⟩ ∧ w.cell? ⟨b, off + i, none⟩ = some (.int .u8 x)) ∧ 0 ≤ x ∧ x ≤ 255
theorem BytesIn.below {w w' : World} {a : Option Addr} {l : List Int} (h : BytesIn w a l) (hb : Below w.heap.size w w') : BytesIn w' a l := by
  intro i x hi
  obtain ⟨⟨b, off, ha, hc⟩, hx⟩ := h i x hi
  exact ⟨⟨b, off, ha, by rw [hb.cell (World.block_lt_of_cell? w _ hc)]; exact hc⟩, hx⟩

def i64L (l : List Int) : List Value := l.map (Value.int .i64)

/-- No block of an arena is a row of numbers. -/
theorem ArS.kinds {w : World} {base bA : Nat} {ns : List NodeM} {F : Nat → Prop} (h : ArS w base bA ns F) {k : Nat} (hk : F k) : ∀ c fz, w.heap[k]? ≠ some (.cells c 3 fz) := by
  obtain ⟨bS, g, cap, h, hF⟩ := h
  intro c fz e
  rcases (hF k).1 hk with rfl | rfl | rfl | ⟨n, hn, ho⟩
  · rw [h.arena] at e; injection e with e; injection e with _ e2; cases e2
  · rw [h.store] at e; injection e with e; injection e with _ e2; cases e2
  · obtain ⟨cur, hc⟩ := h.blockg; rw [hc] at e; injection e with e; injection e with _ e2; cases e2
  · obtain ⟨i, hi, he⟩ := List.mem_iff_getElem.1 hn
    obtain ⟨cur, hc⟩ := ownsRow_block (h.attrs i n (by rw [List.getElem?_eq_getElem hi, he])) ho
    rw [hc] at e; injection e with e; injection e with _ e2; cases e2
theorem ArS.stay {w w' : World} {base bA : Nat} {ns : List NodeM} {F : Nat → Prop} (h : ArS w base bA ns F) (hb : ∀ k, F k → w'.heap[k]? = w.heap[k]?) : ArS w' base bA ns F := by
  obtain ⟨bS, g, cap, h, hF⟩ := h
  exact ⟨bS, g, cap, h.same (fun k hk => hb k ((hF k).2 hk)), hF⟩
theorem row_stay {w w' : World} {base n : Nat} {v : Value} {xs : List Value} {F : Nat → Prop} (h : w.ownsRow base 3 1 v n xs) (hm : Mod F w w') (hF : ∀ k, F k → ∀ c fz, w.heap[k]? ≠ some (.cells c 3 fz)) : w'.ownsRow base 3 1 v n xs := by
  refine ⟨h.1, ?_⟩
  rcases h.2 with hn | ⟨g, cap, cur, rfl, hbb, hgg, rest⟩
  · exact .inl hn
  · exact .inr ⟨g, cap, cur, rfl, hbb, by rw [hm.block g (lt_of_block hgg) (fun e => hF g e _ _ hgg)]; exact hgg, rest⟩
theorem row_below {w w' : World} {base n : Nat} {v : Value} {xs : List Value} (h : w.ownsRow base 3 1 v n xs) (hb : Below w.heap.size w w') : w'.ownsRow base 3 1 v n xs :=
  row_stay h (Mod.of_below (F := fun _ => False) hb) (fun _ e => e.elim)

theorem Built.new : Built [oneM 0] [] := ⟨rfl, ⟨oneM 0, rfl, rfl, rfl, rfl, rfl⟩, fun i u h => by simp at h⟩
theorem sum_step (f : Nat → Nat) (j : Nat) : ((List.range (j + 1)).map f).sum = ((List.range j).map f).sum + f j := by
  rw [List.range_succ, List.map_append, List.sum_append]; simp
theorem cnt_step (l : List UInt8) (i : Nat) (x : UInt8) (h : l[i]? = some x) : cnt10 (l.take (i + 1)) = cnt10 (l.take i) + (if x = 10 then 1 else 0) := by
  obtain ⟨h1, h2⟩ := List.getElem?_eq_some_iff.1 h
  unfold cnt10
  rw [List.take_succ_eq_append_getElem h1, List.filter_append, List.length_append, h2]
  by_cases e : x = 10
  · rw [if_pos e, e]; rfl
  · rw [if_neg e]
    have : ([x].filter (· == 10)) = [] := by simp [e]
    rw [this]; rfl
end Go.Proofs.Ytlbkoafeedlfaaa

namespace Go.Proofs.Ytlbkoafeedlfaaa
open Go.RowKit

theorem Try.info3L : (Try.prog.info? 3).map (fun i => (i.zero, i.size, i.bytes)) = some (some (.int .i64 0), 1, 8) := by kernel_rfl
theorem one_more (w : World) (t : TypeId) (x : Value) : ∀ j u, [x][j]? = some u → (w.alloc (.cells #[x] t)).cell? ((⟨w.heap.size, 0, none⟩ : Addr).add j) = some u :=
  World.news_of_block (heap_alloc_new w (.cells #[x] t))

/-- What the loop that builds the tree holds. -/
structure Grown (w0 : World) (bA : Nat) (us : List Nat) (ds : List Int) (v : Value) (w : World) : Prop where
  tree : ∃ ns os F, ArS w w0.heap.size bA ns F ∧ Sim ns os ∧ Built os us
  dep : DepOk us ds
  row : w.ownsRow w0.heap.size 3 1 v ds.length (i64L ds)
  old : Below w0.heap.size w0 w

set_option maxHeartbeats 4000000 in
theorem showLines_walk {w : World} (a : Option Addr) (cap : Nat) (l : List Int) (hl : BytesIn w a l) :
    Calls Try.prog 12 #[.slice a l.length cap] w fun e w' => e = .returned (.bool true) ∧ Below w.heap.size w w' := by
  obtain ⟨n0, hn0⟩ : ∃ n0 : Nat, min l.length 100 = n0 := ⟨_, rfl⟩
  have hn1 : min (l.length : Int) 100 = (n0 : Int) := by omega
  have hn2 : (n0 : Int) ≤ 100 := by omega
  have hn3 : (n0 : Int) ≤ (l.length : Int) := by omega
  have HN0 : Hid (n0 ≤ 100 ∧ n0 ≤ l.length) := hide (by omega)
  have HNEW := hide (new_any w w.heap.size (Nat.le_refl _))
  have HIN := hide hl
  have HAW := hide awake3_any
  clear hl hn0
  go_enter Try.func12, Try.ntmps12
  set_option maxRecDepth 10000 in
  go_wp2_with (go_at_call 13; refine (unhide HNEW).mono ?_; rintro e w1 ⟨F1, rfl, hA1, hb1, hF1⟩; have HA1 := hide hA1; have HB1 := hide hb1; clear hA1 hb1 hF1)
  generalize hbA : w.heap.size + 3 = bA at HA1 ⊢
  clear hbA
  go_loopg [4, 6] n0 (fun k s4 s6 wx => Hid (∃ (us : List Nat) (ds : List Int), us.length + k = n0 ∧ s6 = .int .i64 us.length ∧ ∃ gd capd, s4 = .slice (some ⟨gd, 0, none⟩) ds.length capd ∧ Grown w bA us ds (.slice (some ⟨gd, 0, none⟩) ds.length capd) wx))
  case atStart =>
    refine hide ⟨[], [-1], by simp, rfl, _, _, rfl, ⟨⟨_, _, F1, (unhide HA1).below ((Below.refl _ w1).alloc (Nat.le_refl _) _), Sim.new, Built.new⟩, DepOk.start, ?_, (unhide HB1).alloc (unhide HB1).size _⟩⟩
    exact ⟨rfl, .inr ⟨w1.heap.size, 1, #[.int .i64 (-1)], rfl, (unhide HB1).size, heap_alloc_new _ _, Nat.le_refl _, by decide, rfl, rfl⟩⟩
  case round =>
    clear HA1 HB1 HNEW
    obtain ⟨us, ds, hk, rfl, gd, capd, rfl, hg⟩ := unhide hrel
    clear hrel
    have HG := hide hg
    have HCD : Hid (∀ (W : World) (v : Value), W.ownsRow w.heap.size 3 1 (.slice (some ⟨gd, 0, none⟩) ds.length capd) ds.length (i64L ds) → ∀ (j : Nat) (d : Int), ds[j]? = some d → W.cell? ⟨gd, j, none⟩ = some (.int .i64 d)) := hide (fun W v hrow j d hj => by
      have hlt := (List.getElem?_eq_some_iff.1 hj).1
      rw [hrow.cellAt j (by omega)]
      simp [i64L, hj])
    obtain ⟨i, hi⟩ : ∃ i, us.length = i := ⟨_, rfl⟩
    have hdl := hg.dep.len
    rw [hi] at hk hdl ⊢
    have HI := hide hi
    obtain ⟨nd, hnd⟩ : ∃ nd, ds.length = nd := ⟨_, rfl⟩
    have HND := hide hnd
    rw [hnd] at hdl ⊢
    have HDL := hide hdl
    clear hnd hi
    by_cases hlt : i < n0
    · have hiz : (i : Int) < (n0 : Int) := by omega
      have hil : (i : Int) < (l.length : Int) := by omega
      have hi100 : (i : Int) ≤ 100 := by omega
      obtain ⟨x, hx⟩ : ∃ x, l[i]? = some x := ⟨_, List.getElem?_eq_getElem (by have := (unhide HN0).2; omega)⟩
      obtain ⟨⟨b, off, rfl, hcx⟩, hx0, hx1⟩ := (unhide HIN) i x hx
      obtain ⟨u, hu, hui⟩ : ∃ u : Nat, x.tmod ((i : Int) + 1) = (u : Int) ∧ u ≤ i := by
        refine ⟨(x.tmod ((i : Int) + 1)).toNat, ?_, ?_⟩
        · rw [Int.tmod_eq_emod_of_nonneg hx0]
          have := Int.emod_nonneg x (b := (i : Int) + 1) (by omega)
          omega
        · rw [Int.tmod_eq_emod_of_nonneg hx0]
          have := Int.emod_lt_of_pos x (b := (i : Int) + 1) (by omega)
          omega
      have HUI := hide hui
      obtain ⟨ns, os, F, hA, hs, hb⟩ := hg.tree
      have hosl : os.length = i + 1 := by have := hb.len; have := unhide HI; omega
      obtain ⟨q1, q2, q3⟩ := hb.step u (by rw [unhide HI]; exact hui) (by have := (unhide HN0).1; have := unhide HI; omega)
      obtain ⟨d, hd⟩ : ∃ d, ds[u]? = some d := ⟨_, List.getElem?_eq_getElem (by have := unhide HND; omega)⟩
      have hdlow := hg.dep.low u d hd
      have hdhi := hb.dep_le hg.dep u d hd
      have hd100 : d ≤ 100 := by omega
      have HD := hide hd
      have hund : (u : Int) < (nd : Int) := by have := unhide HDL; omega
      have hnd101 : nd ≤ 102 := by have := unhide HDL; omega
      have HEL : Hid (Calls Try.prog 34 #[.pointer (some ⟨bA, 0, none⟩), .int .i64 0, .string ⟨#[120]⟩, .slice none 0 0] wr fun e w' => e = .returned (.tuple #[.int .i64 ((i : Int) + 1), .int .i64 0]) ∧ USim F wr w' w.heap.size bA (os ++ [elemQ 0 nameX []])) := hide (by
        have := element_sim hA hs 0 nameX none 0 [] ⟨fun i x h => by simp at h⟩ (by simp)
        rw [q1] at this
        simp only [hosl] at this
        exact this)
      have HSTEP := hide (And.intro q2 q3)
      have HOSL := hide hosl
      have HAK : Hid (∀ k, F k → (∀ c fz, wr.heap[k]? ≠ some (.cells c 3 fz)) ∧ w.heap.size ≤ k) := hide (fun k hk => ⟨hA.kinds hk, (hA.lt hk).1⟩)
      have HBX := hide (World.block_lt_of_cell? w _ hcx)
      have HCX := hide hcx
      obtain ⟨i0, hi0, hz0, hz1, hz2⟩ := info_parts Try.info3L
      have hrem0 : (((i : Int) + 1) == 0) = false := by rw [beq_eq_false_iff_ne]; omega
      clear hg hx hcx q1 q2 q3 hA hs hb hosl hd hui hdl
      set_option maxRecDepth 10000 in
      go_wp2_with (first
        | (go_at_call 34; refine (unhide HEL).mono ?_; rintro e w2 ⟨rfl, ms2, ⟨F2, hA2, hm2, hF2⟩, hs2⟩; have HB2 : Hid (Below w.heap.size w w2) := hide ((unhide HG).old.trans (hm2.below (unhide HG).old.size (fun k hk => ((unhide HAK) k hk).2))); have HROW2 := hide (row_stay (unhide HG).row hm2 (fun k hk => ((unhide HAK) k hk).1)); have cin2 : w2.cell? ⟨b, off + i, none⟩ = some (.int .u8 x) := ((unhide HB2).cell (p := ⟨b, off + i, none⟩) (unhide HBX)).trans (unhide HCX); have HA2 := hide hA2; have HS2 := hide hs2; clear hA2 hm2 hF2 hs2)
        | (go_at_call 35; refine ((by have := link_sim (unhide HA2) (unhide HS2) (u : Int) (os.length : Int) (-1); rw [(unhide HSTEP).1] at this; rw [show ((os.length : Nat) : Int) = (i : Int) + 1 by rw [unhide HOSL]; simp] at this; exact this) : Calls Try.prog 35 #[.pointer (some ⟨bA, 0, none⟩), .int .i64 (u : Int), .int .i64 ((i : Int) + 1), .int .i64 (-1)] w2 fun e w' => e = .returned (.int .i64 0) ∧ ∃ ms, Upd F2 w2 w' w.heap.size bA ms ∧ Sim ms (linkR (os ++ [elemQ 0 nameX []]) (u : Int) ((i : Int) + 1) (-1))).mono ?_; rintro e w3 ⟨rfl, ms3, ⟨F3, hA3, hm3, hF3⟩, hs3⟩; have HB3 : Hid (Below w.heap.size w w3) := hide ((unhide HB2).trans (hm3.below (unhide HB2).size (fun k hk => ((unhide HA2).lt hk).1))); have hrow3 := row_stay (unhide HROW2) hm3 (fun k hk => (unhide HA2).kinds hk); have HROW3 := hide hrow3; have cd3 : w3.cell? ⟨gd, u, none⟩ = some (.int .i64 d) := (unhide HCD) w3 .nilIface hrow3 u d (unhide HD); have hgl3 : gd < w3.heap.size := World.block_lt_of_cell? w3 _ cd3; have HA3 := hide hA3; have HS3 := hide hs3; clear hA3 hm3 hF3 hs3 hrow3)
        | (at_builtin; go_must (refine wpList_append_lies _ (by rfl) _ _ 41 (by rfl) w.heap.size 3 i0 _ 1 8 Try.underlying41 hi0 hz0 hz1 hz2 rfl (by omega) (.slice (some ⟨gd, 0, none⟩) nd capd) nd (i64L ds) (by rfl) (by have := (unhide HROW3).alloc (.cells #[.int .i64 (d + 1)] 3); rw [unhide HND] at this; exact this) ⟨w3.heap.size, 0, none⟩ 1 1 [.int .i64 (d + 1)] (by rfl) (by rfl) (one_more w3 3 (.int .i64 (d + 1))) (by simp [Value.oneCell']) (by omega) (by unfold maxLen; omega) (by omega) (by have := (unhide HB3).size; simp; omega) _ rfl ?_); intro g4 cap4 w4 hown4 hgrow4 hat4 hlt4; have HO4 := hide hown4; have HGR4 := hide hgrow4; clear hown4 hgrow4 hat4 hlt4))
      have hoc : ((os.length : Nat) : Int) = (i : Int) + 1 := by rw [unhide HOSL]; simp
      have hbl3 : Below w3.heap.size w3 (w3.alloc (.cells #[.int .i64 (d + 1)] 3)) := (Below.refl _ w3).alloc (Nat.le_refl _) _
      have hA4 : ArS w4 w.heap.size bA ms3 F3 := by
        refine ((unhide HA3).below hbl3).mod (Mod.grown (F := fun k => k = gd) (unhide HGR4) (fun k hk => by simp only [Value.ownBlock, Option.some.injEq] at hk; exact hk.symm)) (fun k hk e => ?_)
        subst e
        obtain ⟨cur, hc⟩ := ownsRow_block (unhide HROW3) (k := k) rfl
        exact (unhide HA3).kinds hk cur (0, 0) hc
      have hB4 : Below w.heap.size w w4 := (((unhide HB3).alloc (unhide HB3).size _)).grown (unhide HGR4) (by have := (unhide HB3).size; simp; omega) (fun k hk => by
        simp only [Value.ownBlock, Option.some.injEq] at hk
        subst hk
        exact ((unhide HROW3).lt _ rfl).1)
      have hlen : (ds ++ [d + 1]).length = nd + 1 := by rw [List.length_append, unhide HND]; rfl
      have hul : (us ++ [u]).length = i + 1 := by rw [List.length_append, unhide HI]; rfl
      go_roundg (gk - 1)
      case measure => omega
      case rel =>
        refine hide ⟨us ++ [u], ds ++ [d + 1], by rw [hul]; omega, by rw [hul]; go_num, g4, cap4, by rw [hlen], ⟨⟨ms3, _, F3, hA4, unhide HS3, by rw [← hoc]; exact (unhide HSTEP).2⟩, (unhide HG).dep.step u d (unhide HD), ?_, hB4⟩⟩
        rw [hlen]
        have e : i64L (ds ++ [d + 1]) = i64L ds ++ [.int .i64 (d + 1)] := by simp [i64L]
        rw [e]
        exact unhide HO4
    · obtain rfl : i = n0 := by omega
      obtain ⟨ns, os, F, hA, hs, hb⟩ := hg.tree
      have HSH := hide (show_lines hA hs hb hg.dep (by rw [unhide HI]; exact (unhide HN0).1))
      rw [unhide HI] at HSH
      have HSM : Hid (((List.range i).map (fun k => fw ds (k + 1))).sum ≤ 100000) := hide (by have := hb.small hg.dep (by rw [unhide HI]; exact (unhide HN0).1); rw [unhide HI] at this; exact this)
      have HDE : Hid (∀ j, j < i → ∃ e : Int, ds[j + 1]? = some e ∧ 0 ≤ e ∧ e ≤ 100 ∧ (fw ds (j + 1) : Int) = 6 + 2 * e) := hide (fun j hj => by
        have hju : j < us.length := by rw [unhide HI]; exact hj
        obtain ⟨d, h1, h2, h3⟩ := hg.dep.more j _ (List.getElem?_eq_getElem hju)
        have h4 := hb.dep_le hg.dep (j + 1) _ h3
        have := (unhide HN0).1
        refine ⟨d + 1, h3, by omega, by omega, ?_⟩
        unfold fw
        rw [h3, Option.getD_some]
        omega)
      clear hA hs hb
      have hii : ¬ (i : Int) < (i : Int) := by omega
      clear hg hdl
      set_option maxRecDepth 10000 in
      go_wp2_with (go_at_call 28; refine (unhide HSH).mono ?_; rintro e w2 ⟨st, rfl, hsz, hcn, hb2⟩; have HSZ := hide hsz; have HCN := hide hcn; have HB2 := hide hb2; clear hsz hcn hb2)
      have HCELL : Hid (∀ (j : Nat) (d : Int), ds[j]? = some d → w2.cell? ⟨gd, j, none⟩ = some (.int .i64 d)) := hide (fun j d hj => (unhide HCD) w2 .nilIface (row_below (unhide HG).row (unhide HB2)) j d hj)
      have hstz : (st.size : Int) ≤ 100000 := by have := unhide HSZ; have := unhide HSM; omega
      have hi100 : (i : Int) ≤ 100 := by have := (unhide HN0).1; omega
      go_loopg [12, 13] i (fun k s12 s13 wx => ∃ j sj : Nat, j + k = i ∧ s13 = .int .i64 ((j : Int) + 1) ∧ s12 = .int .i64 (sj : Int) ∧ Hid (sj = ((List.range j).map (fun k => fw ds (k + 1))).sum) ∧ sj ≤ 300 * j ∧ Hid (wx = w2))
      case atStart => exact ⟨0, 0, by omega, rfl, rfl, hide rfl, by omega, hide rfl⟩
      case round =>
        obtain ⟨j, sj, hjk, rfl, rfl, HSJ, hsj, HE⟩ := hrel
        have hsjz : (sj : Int) ≤ 30000 := by omega
        by_cases hj : j < i
        · obtain ⟨e, he, he0, he1, hfw⟩ := (unhide HDE) j hj
          have hcj : (j : Int) + 1 < (nd : Int) := by have := unhide HDL; omega
          have cj : wr.cell? ⟨gd, j + 1, none⟩ = some (.int .i64 e) := by rw [unhide HE]; exact (unhide HCELL) _ _ he
          have HFW := hide hfw
          have htn : ((j : Int) + 1).toNat = j + 1 := by omega
          have hj0 : (0 : Int) ≤ (j : Int) + 1 := by omega
          have hjz : (j : Int) ≤ 100 := by omega
          clear he hfw
          go_wp2
          go_roundg (gk - 1)
          case measure => omega
          case rel =>
            have hf := unhide HFW
            refine ⟨j + 1, sj + fw ds (j + 1), by omega, by go_num, ?_, hide (by rw [sum_step, unhide HSJ]), by omega, HE⟩
            rw [Int.natCast_add, hf]
            congr 1
            omega
        · obtain rfl : j = i := by omega
          have hcj : ¬ (j : Int) + 1 < (nd : Int) := by have := unhide HDL; omega
          have HSJ2 : Hid (sj = st.size) := hide ((unhide HSJ).trans (unhide HSZ).symm)
          go_wp2
          clear hcj hsj
          go_loopg [14, 15] st.size (fun k s14 s15 wx => ∃ q c : Nat, q + k = st.size ∧ s15 = .int .i64 (q : Int) ∧ s14 = .int .i64 (c : Int) ∧ Hid (c = cnt10 (st.data.toList.take q)) ∧ c ≤ q ∧ Hid (wx = w2))
          case atStart => exact ⟨0, 0, by omega, rfl, rfl, hide rfl, by omega, HE⟩
          case round =>
            clear HE
            obtain ⟨q, c, hqk, rfl, rfl, HC, hcq, HE⟩ := hrel
            have hcz : (c : Int) ≤ 100000 := by omega
            by_cases hq : q < st.size
            · have hqz : (q : Int) < (st.size : Int) := by omega
              have HST := hide (cnt_step st.data.toList q (st[q]'hq) (Lib.data_getElem? st q hq))
              obtain ⟨x, hx⟩ : ∃ x : UInt8, st[q]'hq = x := ⟨_, rfl⟩
              rw [hx] at HST
              by_cases h10 : x = 10
              · have hxx : ((x.toNat : Int) == 10) = true := by rw [h10]; rfl
                have HX := hide h10
                clear h10
                go_wp2
                go_roundg (gk - 1)
                case measure => omega
                case rel => exact ⟨q + 1, c + 1, by omega, by go_num, by go_num, hide (by rw [unhide HST, if_pos (unhide HX), unhide HC]), by omega, HE⟩
              · have hxx : ((x.toNat : Int) == 10) = false := by
                  rw [beq_eq_false_iff_ne]; intro e; apply h10; apply UInt8.toNat_inj.1; show _ = 10; omega
                have HX := hide h10
                clear h10
                go_wp2
                go_roundg (gk - 1)
                case measure => omega
                case rel => exact ⟨q + 1, c, by omega, by go_num, rfl, hide (by rw [unhide HST, if_neg (unhide HX), unhide HC, Nat.add_zero]), by omega, HE⟩
            · obtain rfl : q = st.size := by omega
              have hqz : ¬ (st.size : Int) < (st.size : Int) := by omega
              have hcj : c = j := by
                rw [unhide HC, List.take_of_length_le (by rw [Array.length_toList]; exact Nat.le_refl _), unhide HCN]
              have hq1 : ((c : Int) == (j : Int)) = true := by rw [hcj]; exact beq_self_eq_true _
              have hq2 : ((st.size : Int) == (sj : Int)) = true := by rw [unhide HSJ2]; exact beq_self_eq_true _
              clear hcj hcz hcq
              go_wp2_with (go_at_call 30; refine (unhide HAW _).mono ?_; rintro e w5 ⟨rfl, hb5⟩; have HB5 := hide hb5; clear hb5)
              go_ret
              refine ⟨rfl, ?_⟩
              have e := unhide HE
              have b1 := (unhide HG).old
              have b2 := b1.trans ((unhide HB2).mono b1.size)
              rw [← e] at b2
              exact b2.trans ((unhide HB5).mono b2.size)
end Go.Proofs.Ytlbkoafeedlfaaa

namespace Go.Proofs.Ytlbkoafeedlfaaa
open Go.ChangeShapes Go.WideShapes Go.ChangeAt Go.RowKit

theorem laidOut : laidOutB Try.prog = true := by kernel_rfl

section
variable {H : Type} {enc : TypeId × Value → H} {W : World} {spare : Nat → Bool} {held : Bool}

theorem addr_plain {x : Addr} {v : Value} (h : W.cell? (x.add 0) = some v) : ∃ b off, x = ⟨b, off, none⟩ := by
  obtain ⟨b, off, spot⟩ := x
  have hspot : spot = none := by simpa [Addr.add] using World.cell?_spot h
  exact ⟨b, off, by rw [hspot]⟩

theorem cells_get {x : Addr} {n : Nat} {cs : List Value} (h : W.cells? 0 x n = some cs) (j : Nat) (v : Value) (hj : cs[j]? = some v) : W.cell? (x.add j) = some v := by
  obtain ⟨_, hlen, hc⟩ := World.cells?_some h
  have hlt : j < cs.length := (List.getElem?_eq_some_iff.1 hj).1
  simp only [World.cells?, Nat.zero_le, if_true] at h
  have hjn : j < n := by omega
  have := mapM_some_get h j j (by simp [hjn])
  rw [this, hj]

theorem add_at (b off j : Nat) : (⟨b, off, none⟩ : Addr).add j = ⟨b, off + j, none⟩ := by unfold Addr.add; split <;> simp_all
theorem bytes_open {a : Option Addr} {len cap : Nat} {d : DataW H} {ps : List MemPlace} (h : DataW.Trod enc Try.prog W 0 spare held 46 (.slice a len cap) d ps) :
    ∃ l : List Int, l.length = len ∧ BytesIn W a l ∧ l.length ≤ maxLen := by
  obtain ⟨fuel, hf⟩ := h
  rcases Go.Deep.open_slice Try.underlying46 hf with ⟨hcs, _⟩ | ⟨x, l, c, m, n, D, Pl, hcs, _, hlc, hcm, hm, hx, hel⟩
  · simp [Value.cells] at hcs
    obtain ⟨rfl, rfl, rfl⟩ := hcs
    exact ⟨[], rfl, fun i x hi => by simp at hi, by simp⟩
  · simp [Value.cells] at hcs
    obtain ⟨rfl, rfl, rfl⟩ := hcs
    have hc1 : Try.prog.cellsOf 5 = 1 := by kernel_rfl
    have hlm : len ≤ m := by rw [hm]; split <;> omega
    have one : ∀ i, i < len → ∃ z : Int, (∃ b off, x = ⟨b, off, none⟩ ∧ W.cell? ⟨b, off + i, none⟩ = some (.int .u8 z)) ∧ 0 ≤ z ∧ z ≤ 255 := by
      intro i hi
      obtain ⟨cs', hcs', htr⟩ := hel i (by omega)
      rw [hc1] at hcs'
      obtain ⟨z, rfl, _, hwf⟩ := DataW.trod_int Try.underlying5 htr
      have hz : 0 ≤ z ∧ z < 256 := by
        have e1 : IntKind.u8.min = 0 := rfl
        have e2 : IntKind.u8.max = 255 := by decide
        simp only [Lit.wf, e1, e2, Bool.and_eq_true, decide_eq_true_eq] at hwf
        omega
      have c0 := cells_get hcs' 0 _ rfl
      rw [Go.Deep.add_add] at c0
      obtain ⟨i0, hi0⟩ : ∃ i0 : Nat, i0 = 0 := ⟨0, rfl⟩
      obtain ⟨cs0, hcs0, htr0⟩ := hel i0 (by omega)
      rw [hc1] at hcs0
      obtain ⟨z0, rfl, _, _⟩ := DataW.trod_int Try.underlying5 htr0
      have p0 := cells_get hcs0 0 _ rfl
      rw [Go.Deep.add_add, show i0 * 1 + 0 = 0 by omega] at p0
      obtain ⟨b, off, rfl⟩ := addr_plain p0
      rw [add_at, show i * 1 + 0 = i by omega] at c0
      exact ⟨z, ⟨b, off, rfl, c0⟩, hz.1, by omega⟩
    obtain ⟨f, hf'⟩ : ∃ f : Nat → Int, ∀ i, i < len → (∃ b off, x = ⟨b, off, none⟩ ∧ W.cell? ⟨b, off + i, none⟩ = some (.int .u8 (f i))) ∧ 0 ≤ f i ∧ f i ≤ 255 := Go.Deep.choose_lt one
    refine ⟨(List.range len).map f, by simp, fun i y hi => ?_, by simp; omega⟩
    have hlt : i < len := by have := (List.getElem?_eq_some_iff.1 hi).1; simpa using this
    have hy : f i = y := by simpa [hlt] using hi
    obtain ⟨⟨b, off, e, hc⟩, h1, h2⟩ := hf' i hlt
    subst hy
    exact ⟨⟨b, off, by rw [e], hc⟩, h1, h2⟩

end
end Go.Proofs.Ytlbkoafeedlfaaa
namespace Go.Proofs.Ytlbkoafeedlfaaa.showLines
open Go.ChangeShapes Go.WideShapes Go.ChangeAt Go.RowKit

theorem own : ownKnob Try.prog.godebug = none := by kernel_rfl

set_option maxRecDepth 100000 in
theorem lifted (os : Os) (started : os.Started) (H : Type) (enc : TypeId × Value → H) :
    ReturnsInHanded {} Try.checked os 12 .any (Rows.showLinesSpec.pre6 enc Try.prog Try.f12 Rows.showLinesRow.domain false) (Rows.showLinesSpec.post enc Try.prog Try.f12 false true false false) := by
  refine returnsInHanded_of_change_sized (C := Try.checked) own started (by kernel_rfl) Try.func12
    (ChangeSpec.witness6 (enc := enc) (C := Try.checked) false ⟨#[], #[.slice none 0 0], []⟩ 8 (by kernel_rfl) (by kernel_rfl) (by kernel_rfl) (by kernel_rfl)) ?_
  intro W base args ds gs before hval0 hW _ _ _
  have hval : ∀ (j : Nat) t v, Try.f12.params[j]? = some t → args[j]? = some v → Value.okWide Try.prog W .any base t v := hval0
  have hW' := hW
  obtain ⟨p, q, hA0, hV, rfl, _, _⟩ := hW
  have hA : DataW.TrodAll enc Try.prog W 0 (fun _ => true) true Try.f12.params.toList args.toList ds p := hA0
  rw [Try.params12] at hA hval
  obtain ⟨v0, vs0, d0, ds0, p0, q0, hargs, rfl, rfl, h0, r0⟩ := trodAll_cons hA
  obtain ⟨rfl, rfl, rfl⟩ := trodAll_nil r0
  obtain rfl : args = #[v0] := by cases args; simp_all
  obtain ⟨rfl, rfl⟩ := trodVars_none hV
  obtain ⟨a0, len0, cap0, rfl⟩ := okWide_slice Try.underlying46 (hval 0 46 v0 rfl rfl)
  have k0 := h0
  have lt0 : ∀ x ∈ p0, x.block < W.heap.size := by obtain ⟨m, hm⟩ := k0; exact DataW.trod_lt m _ _ _ hm
  obtain ⟨l0, rfl, c0, _⟩ := bytes_open h0
  clear hA0 hval0
  refine (showLines_walk a0 cap0 l0 c0).mono fun e W' ⟨he, bel⟩ => ?_
  subst he
  exact ⟨_, rfl, _, _, _, [], _, [], hW', trodAll_mk1 (shut_bool Try.underlying4 _), (trodAll_cons_mk (Below.trod laidOut (by kernel_rfl) (of_decide_eq_true (by kernel_rfl)) k0 bel lt0) trodAll_mk0), rfl, bel.frame _, fun h => by cases h⟩

theorem over : Rows.showLinesRow.holds Try.pinned (OpenSpec.ofChange Rows.showLinesSpec) :=
  OpenClaim.holds_of_wide 12 Try.f12 rfl rfl rfl rfl rfl rfl rfl ⟨rfl, rfl, rfl, rfl, rfl⟩ rfl rfl rfl rfl rfl (by kernel_rfl) Try.func12 (by kernel_rfl)
    (of_decide_eq_true (by kernel_rfl)) (by unfold Func.isWrapper; first | (rw [if_pos (by decide +kernel)]; kernel_rfl) | (rw [if_neg (by decide +kernel)]; exact ⟨rfl, rfl⟩))
    (fun os started H enc _ => lifted os started H enc)
end Go.Proofs.Ytlbkoafeedlfaaa.showLines
namespace Go.Proofs.Ytlbkoafeedlfaaa
theorem showLines_holds : Rows.ShowLinesSaid := showLines.over
#print axioms showLines_holds
end Go.Proofs.Ytlbkoafeedlfaaa
