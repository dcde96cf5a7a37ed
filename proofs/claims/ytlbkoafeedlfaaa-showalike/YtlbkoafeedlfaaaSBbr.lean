/-
  Package show's eachLine over any tree, to the first writer.
-/
import Derived.Test.YtlbkoafeedlfaaaSBbq
namespace Go.Proofs.Ytlbkoafeedlfaaa
open Go.RowKit

set_option maxHeartbeats 8000000 in
theorem each1 {sb B : Nat} {W0 w : World} {base bA : Nat} {ns : List NodeM} {os : List OneM} {F0 : Nat → Prop} (hA : ArS W0 base bA ns F0) (hs : Sim ns os) (hso : SmallO os) (hl : os.length ≤ 900)
    (hW : Below W0.heap.size W0 w) (hB : W0.heap.size ≤ B) (h : X1 sb B [] w) (L : List Nat) (hL : PathOf (nextF ns) (headI L) L) (hLd : ∀ j ∈ L, ∃ pj, PathOf (upO os) j pj ∧ 0 ≤ 2 * pj.length) (hLn : (L.flatMap (TR os)).length ≤ 900) (hbd : evZ (evL os L 0) ≤ 50000000000000) :
    Calls Try.prog 73 #[.pointer (some ⟨bA, 0, none⟩), .int .i64 (headI L), .func (.func 74) #[] #[.pointer (some ⟨sb, 0, none⟩)]] w fun e w' => e = .returned (.tuple #[]) ∧ X1 sb B (evL os L 0) w' ∧ Kept (own1 sb) B w w' := by
  obtain ⟨TOT, htot⟩ : ∃ TOT, evL os L 0 = TOT := ⟨_, rfl⟩
  obtain ⟨cn, hcn⟩ : ∃ cn, (L.flatMap (TR os)).length = cn := ⟨_, rfl⟩
  rw [htot] at hbd ⊢
  rw [hcn] at hLn
  have HA := hide hA
  have HSIM := hide hs
  have HSO := hide hso
  have HOL := hide hl
  have HW0 := hide hW
  have HBB := hide hB
  have HX0 := hide h
  have HCNL := hide hLn
  have HTB : Hid (∀ A C, A ++ C = TOT → evZ A ≤ 50000000000000) := hide (fun A C e => by rw [← e, evZ_append] at hbd; omega)
  have hst0 : StS (w.alloc (.cells #[.slice none 0 0] 149 (0, 0))) w.heap.size w.heap.size 149 152 2 ([] : List (List Nat × Nat)).length (cellsS []) (fun k => k = w.heap.size) :=
    ⟨.slice none 0 0, ⟨heap_alloc_new _ _, World.ownsRow_nil _ _ _ _, Nat.le_refl _, by decide⟩, fun k => by simp [Value.ownBlock]⟩
  have HPUT := hide (put_spot hst0 (by simp) L 0 0 rfl)
  have HK0 : Hid (Kept (own1 sb) B w (w.alloc (.cells #[.slice none 0 0] 149 (0, 0)))) := hide (Kept.of_below ((Below.refl _ w).alloc (Nat.le_refl _) _) h.size)
  have HXA := hide (h.below ((Below.refl _ w).alloc (Nat.le_refl _) (.cells #[.slice none 0 0] 149 (0, 0))))
  have HG0 : Hid (GoodT ns os (putS [] L 0)) := hide (GoodT.put (fun e he => by cases he) hL hLd)
  have HR0 : Hid ((restT os (putS [] L 0)).length = cn) := hide (by rw [restT_put, ← hcn]; rfl)
  have HE0 : Hid (restE os (putS [] L 0) = TOT) := hide (by rw [restE_put, ← htot]; simp [restE])
  have HST0 := hide hst0
  clear hA hs hso hl hW hB h hL hLd hLn hbd hst0 hcn htot
  go_enter Try.func73, Try.ntmps73
  set_option maxRecDepth 10000 in
  go_wp2_with (go_at_call 112; refine (unhide HPUT).mono ?_; rintro e w1 ⟨rfl, hu1⟩; have HU1 := hide hu1; clear hu1)
  go_loopg [] cn (fun k wx => Hid (∃ E F A, (restT os E).length = k ∧ k ≤ 900 ∧ StS wx w.heap.size w.heap.size 149 152 2 E.length (cellsS E) F ∧ GoodT ns os E ∧ A ++ restE os E = TOT ∧ X1 sb B A wx ∧ Kept (own1 sb) B w wx))
  case atStart =>
    obtain ⟨F1, h1, h2, h3⟩ := unhide HU1
    refine hide ⟨_, F1, [], unhide HR0, unhide HCNL, h1, unhide HG0, unhide HE0, ?_, ?_⟩
    · refine (unhide HXA).mod h2 (fun k hk e => ?_) (fun k hk => (unhide HST0).kinds (by decide) (by decide) hk)
      have := (unhide HX0).lt k e
      omega
    · exact (unhide HK0).mod h2 (fun k hk => by omega) (unhide HX0).size
  case round =>
    clear HU1 HPUT HK0 HXA HG0 HR0 HST0 HE0
    obtain ⟨E, F, A, hk, hk9, hst, hgood, hA, hx, hkept⟩ := unhide hrel
    clear hrel
    have HST := hide hst
    have HGD := hide hgood
    have HX := hide hx
    have HK := hide hkept
    have HSUM := hide (And.intro hk (And.intro hk9 hA))
    clear hst hgood hx hkept hk hA hk9
    rcases List.eq_nil_or_concat E with rfl | ⟨E', ⟨L', d⟩, hE⟩
    · have HEM := hide (empty_spot (unhide HST))
      go_wp2_with (go_at_call 114; refine (unhide HEM).mono ?_; rintro e w2 ⟨rfl, rfl⟩)
      go_end0
      have q := (unhide HSUM).2.2
      have e1 : A = TOT := by simpa [restE] using q
      subst e1
      exact ⟨rfl, unhide HX, unhide HK⟩
    · rw [List.concat_eq_append] at hE
      subst hE
      obtain ⟨hne, hpath, hdep⟩ := (unhide HGD) (L', d) (by simp)
      obtain ⟨j, R, rfl⟩ : ∃ j R, L' = j :: R := by
        cases L' with
        | nil => exact absurd rfl hne
        | cons j R => exact ⟨j, R, rfl⟩
      obtain ⟨pj, hpj, hdj⟩ := hdep j (by simp)
      have hjl : j < os.length := path_in hpj j (path_self hpj)
      obtain ⟨o, ho⟩ : ∃ o, os[j]? = some o := ⟨_, List.getElem?_eq_getElem hjl⟩
      have hps := path_short hpj
      have hd1 : d ≤ 1800 := by have := unhide HOL; omega
      have hsm := (unhide HSO) o (List.mem_of_getElem? ho)
      obtain ⟨n, hn, sm⟩ := (unhide HSIM).get ho
      obtain ⟨_, mx, hmx, hpr⟩ := hpath
      have hnx : n.next = headI R := by
        have e1 : mx = n.next := by unfold nextF at hmx; rw [hn] at hmx; exact (Option.some.inj hmx).symm
        rw [← e1]; exact path_first hpr
      have hfp := first_path (unhide HSIM) hn ho
      have hfi := path_first hfp
      have HNO : Hid (∀ W, Below W0.heap.size W0 W → Calls Try.prog 18 #[.pointer (some ⟨bA, 0, none⟩), .int .i64 (j : Int)] W fun e w' => ∃ a c, e = .returned (.tuple #[.agg #[.int .i64 n.kind, .int .i64 n.space, .string n.name, .slice a n.attrs.length c, .string n.data, .string n.system, .int .i64 n.parent, .int .i64 (headI o.kids), .int .i64 n.last, .int .i64 n.prev, .int .i64 (headI R), .int .i64 n.inner], .int .i64 0]) ∧ RowA w' W.heap.size a c n.attrs ∧ Below W.heap.size W w') := hide (fun W hW => (nodeB (unhide HA) hW hn).mono (by
        rintro e w' ⟨a, c, rfl, hr, hb⟩
        refine ⟨a, c, ?_, hr, hb⟩
        rw [hfi, hnx]))
      have HTE : Hid (tellL n.kind n.space n.name n.data n.system n.attrs d = tellE o d) := hide (by unfold tellE; rw [sm.kind, sm.space, sm.name, sm.data, sm.system, sm.attrs])
      have HAL : Hid (n.attrs.length ≤ 1024 ∧ ∀ x ∈ n.attrs, x.name.size ≤ 2000000) := hide (by rw [sm.attrs]; exact ⟨hsm.few, fun x hx => by have := (hsm.attrs x hx).1; omega⟩)
      have HOK : Hid (∀ e ∈ tellL n.kind n.space n.name n.data n.system n.attrs d, EvOk e) := hide (by rw [unhide HTE]; exact tell_ok hsm (by omega))
      have HD1 : Hid (d ≤ 1800) := hide hd1
      have hdz : (d : Int) ≤ 1800 := by omega
      obtain ⟨sr1, sr2, sr3⟩ := step_rest (unhide HSIM) (d := d) ho E' R
      have HTOT : Hid (A ++ (tellE o d ++ contE o d) ++ restE os (putS (putS (putS E' R d) o.kids (d + 1)) (innerK os o) (d + 2)) = TOT) := hide (by
        rw [← (unhide HSUM).2.2, sr3, List.append_assoc])
      have HBT : Hid (evZ (A ++ tellL n.kind n.space n.name n.data n.system n.attrs d) ≤ 100000000000000) := hide (by
        have := (unhide HTB) (A ++ tellE o d) (contE o d ++ restE os (putS (putS (putS E' R d) o.kids (d + 1)) (innerK os o) (d + 2))) (by rw [← unhide HTOT]; simp only [List.append_assoc])
        rw [unhide HTE]; omega)
      have HGE : Hid (GoodT ns os (putS (putS (putS E' R d) o.kids (d + 1)) (innerK os o) (d + 2))) := hide (by
        have g1 : GoodT ns os E' := fun e he => (unhide HGD) e (List.mem_append_left _ he)
        refine ((g1.put (by rw [path_first hpr] at hpr; exact hpr) (fun q hq => hdep q (List.mem_cons_of_mem _ hq))).put (by rw [← hfi]; exact hfp) (fun c hc => ?_)).put ?_ (fun c hc => ?_)
        · exact ⟨c :: pj, (unhide HSIM).path_below ho (by simp [belowO, hc]) hpj, by simp only [List.length_cons]; omega⟩
        · cases hi : innerL o with
          | nil => unfold innerK; rw [hi]; rfl
          | cons i r =>
            have hr : r = [] := by
              unfold innerL at hi
              split at hi
              · cases hi
              · cases hi; rfl
            subst hr
            obtain ⟨_, m, hm, _⟩ := (unhide HSIM).inner_facts ho (c := i) (by rw [hi]; simp)
            obtain ⟨nm, hnm, _⟩ := (unhide HSIM).get hm
            have e1 : innerK os o = m.kids := by unfold innerK kidsAt; rw [hi]; simp [hm]
            have hp := first_path (unhide HSIM) hnm hm
            rw [e1, ← path_first hp]
            exact hp
        · obtain ⟨i, m, hi, hm, hcm⟩ := innerK_below (unhide HSIM) ho hc
          have p1 := (unhide HSIM).path_below ho (c := i) (by simp [belowO, hi]) hpj
          exact ⟨c :: i :: pj, (unhide HSIM).path_below hm (by simp [belowO, hcm]) p1, by simp only [List.length_cons]; omega⟩)
      have HSR : Hid ((restT os (putS (putS (putS E' R d) o.kids (d + 1)) (innerK os o) (d + 2))).length < gk ∧ gk ≤ 900) := hide (by
        obtain ⟨q1, q2, _⟩ := unhide HSUM
        exact ⟨by omega, q2⟩)
      have HLE : Hid (E'.length ≤ 5000) := hide (by
        have q1 := rest_ge (unhide HSIM) _ (unhide HGD)
        obtain ⟨q2, q3, _⟩ := unhide HSUM
        rw [List.length_append] at q1
        omega)
      have HST' : Hid (StS wr w.heap.size w.heap.size 149 152 2 (E'.length + 1) (cellsS E' ++ [.int .i64 (j : Int), .int .i64 (d : Int)]) F) := hide (by
        have := unhide HST
        rw [List.length_append] at this
        have e : cellsS (E' ++ [(j :: R, d)]) = cellsS E' ++ [.int .i64 (j : Int), .int .i64 (d : Int)] := by unfold cellsS; rw [List.flatMap_append]; rfl
        rw [e] at this
        exact this)
      have HEM : Hid (Calls Try.prog 114 #[.pointer (some ⟨w.heap.size, 0, none⟩)] wr fun e w' => e = .returned (.bool false) ∧ wr = w') := hide ((empty_spot (unhide HST)).mono (by
        rintro e w' ⟨rfl, h⟩
        exact ⟨by simp, h⟩))
      have HPOP := hide (pop_spot (unhide HST') (by have := unhide HLE; omega))
      have HFL : Hid (∀ k, F k → w.heap.size ≤ k ∧ k < wr.heap.size) := hide (fun k hk => (unhide HST).lt hk)
      have HKD : Hid (∀ k, F k → ∀ c fz, wr.heap[k]? ≠ some (.cells c 5 fz)) := hide (fun k hk => (unhide HST).kinds (by decide) (by decide) hk)
      have HSX : Hid (∀ k, (own1 sb) k → k < w.heap.size) := hide (unhide HX0).lt
      by_cases hin : o.inner = -1
      · have hninn : n.inner = -1 := by rw [sm.inner]; exact hin
        have HCE : Hid (contE o d = [] ∧ innerK os o = []) := hide ⟨by unfold contE; rw [if_pos hin], by unfold innerK; rw [innerL_inner.2 hin]; rfl⟩
        rw [hninn] at HNO
        clear hne hdep hpj hdj hjl ho hps hd1 hsm hn sm hmx hpr hnx hfp hfi HST HST' sr1 sr2 sr3 hin hninn
        set_option maxRecDepth 10000 in
        go_wp2_with (first
          | (go_at_call 114; refine (unhide HEM).mono ?_; rintro e w2 ⟨rfl, rfl⟩)
          | (go_at_call 115; refine (unhide HPOP).mono ?_; rintro e w1 ⟨rfl, F1, hst1, hm1, hF1⟩; have HST1 := hide hst1; have HK1 : Hid (Kept (own1 sb) B w w1) := hide ((unhide HK).mod hm1 (fun k hk => ((unhide HFL) k hk).1) (unhide HX0).size); have HX1 : Hid (X1 sb B A w1) := hide ((unhide HX).mod hm1 (fun k hk e => by have := (unhide HSX) k e; have := ((unhide HFL) k hk).1; omega) (unhide HKD)); have HB1 : Hid (Below W0.heap.size W0 w1) := hide ((unhide HW0).trans ((unhide HK1).below.mono (unhide HBB))); have HFL1 : Hid (∀ k, F1 k → w.heap.size ≤ k ∧ k < w1.heap.size) := hide (fun k hk => hst1.lt hk); clear hst1 hm1 hF1)
          | (go_at_call 18; refine (unhide HNO _ (by exact (unhide HB1).alloc (unhide HB1).size _)).mono ?_; rintro e w2 ⟨a2, c2, rfl, hr2, hb2⟩; have HR2 : Hid (RowA w2 (w1.heap.size + 1) a2 c2 n.attrs) := hide (by simpa using hr2); have hsp2 : w2.heap[w1.heap.size]? = some (.cells #[.int .i64 (j : Int), .int .i64 (d : Int)] 152 (0, 0)) := (hb2.block _ (by simp)).trans (heap_alloc_new _ _); have HSP2 := hide hsp2; have hlt12 : w1.heap.size < w2.heap.size := lt_of_block hsp2; have c20 : w2.cell? ⟨w1.heap.size, 0, none⟩ = some (.int .i64 (j : Int)) := (by simp [World.cell?, hsp2]); have c21 : w2.cell? ⟨w1.heap.size, 1, none⟩ = some (.int .i64 (d : Int)) := (by simp [World.cell?, hsp2]); have HW12 : Hid (Below w1.heap.size w1 w2) := hide (((Below.refl _ w1).alloc (Nat.le_refl _) _).trans (hb2.mono (by simp))); clear hb2 hsp2 hr2)
          | (go_at_call 116; refine (tell1_any (E := A) (by exact ((unhide HX1).below (unhide HW12)).below ((Below.refl _ w2).alloc (Nat.le_refl _) _)) _ _ _ _ _ a2 c2 n.attrs _ _ _ _ _ _ d (w1.heap.size + 1) (by exact (unhide HR2).below ((Below.refl _ w2).alloc (Nat.le_refl _) _)) (fun k hk => by have := (unhide HSX) _ hk; have := (unhide HK1).size; omega) (unhide HAL).1 (unhide HAL).2 (by have := unhide HD1; omega) (unhide HOK) (unhide HBT)).mono ?_; rintro e w3 ⟨rfl, hx3, hk3⟩; have hn1 : ¬ (own1 sb) w1.heap.size := (fun e => by have := (unhide HSX) _ e; have := (unhide HK1).size; omega); have hn2 : ¬ (own1 sb) w2.heap.size := (fun e => by have := (unhide HSX) _ e; have := (unhide HK1).size; omega); have hsp3 : w3.heap[w1.heap.size]? = some (.cells #[.int .i64 (j : Int), .int .i64 (d : Int)] 152 (0, 0)) := hk3.cell (by rw [Below.heap_alloc _ _ _ hlt12]; exact unhide HSP2) hn1 (by decide); have hnd3 : w3.heap[w2.heap.size]? = some (Obj.cells #[.int .i64 n.kind, .int .i64 n.space, .string n.name, .slice a2 n.attrs.length c2, .string n.data, .string n.system, .int .i64 n.parent, .int .i64 (headI o.kids), .int .i64 n.last, .int .i64 n.prev, .int .i64 (headI R), .int .i64 (-1)] 37 (0, 0)) := hk3.cell (heap_alloc_new _ _) hn2 (by decide); have HSP3 := hide hsp3; have HND3 := hide hnd3; have c31 : w3.cell? ⟨w1.heap.size, 1, none⟩ = some (.int .i64 (d : Int)) := (by simp [World.cell?, hsp3]); have c3a : w3.cell? ⟨w2.heap.size, 10, none⟩ = some (.int .i64 (headI R)) := (by simp [World.cell?, hnd3]); have HX3 := hide hx3; have HST3 : Hid (StS w3 w.heap.size w.heap.size 149 152 2 E'.length (cellsS E') F1) := hide ((((unhide HST1).below (unhide HW12)).below ((Below.refl _ w2).alloc (Nat.le_refl _) (Obj.cells #[.int .i64 n.kind, .int .i64 n.space, .string n.name, .slice a2 n.attrs.length c2, .string n.data, .string n.system, .int .i64 n.parent, .int .i64 (headI o.kids), .int .i64 n.last, .int .i64 n.prev, .int .i64 (headI R), .int .i64 (-1)] 37 (0, 0)))).kept hk3 (by decide) (by decide) (fun k hk e => by have := (unhide HSX) _ e; have := ((unhide HFL1) k hk).1; omega)); have HK3 : Hid (Kept (own1 sb) B w w3) := hide (((unhide HK1).trans (Kept.of_below (((unhide HW12).trans (((Below.refl _ w2).alloc (Nat.le_refl _) (Obj.cells #[.int .i64 n.kind, .int .i64 n.space, .string n.name, .slice a2 n.attrs.length c2, .string n.data, .string n.system, .int .i64 n.parent, .int .i64 (headI o.kids), .int .i64 n.last, .int .i64 n.prev, .int .i64 (headI R), .int .i64 (-1)] 37 (0, 0))).mono (Nat.le_of_lt hlt12)))) (unhide HX1).size)).trans hk3); clear hx3 hk3 hn1 hn2 hsp3 hnd3)
          | (go_at_call 112; have _x := unhide HX4; refine (put_spot (unhide HST4) (by have := unhide HLE; have := put_len E' R d; omega) o.kids (d + 1) _ (by simp)).mono ?_; rintro e w5 ⟨rfl, F5, hst5, hm5, hF5⟩; have HST5 := hide hst5; have hnd5 : w5.heap[w2.heap.size]? = some (Obj.cells #[.int .i64 n.kind, .int .i64 n.space, .string n.name, .slice a2 n.attrs.length c2, .string n.data, .string n.system, .int .i64 n.parent, .int .i64 (headI o.kids), .int .i64 n.last, .int .i64 n.prev, .int .i64 (headI R), .int .i64 (-1)] 37 (0, 0)) := (hm5.block _ (lt_of_block (unhide HND4)) (fun e => (unhide HN4) _ e (.inr rfl))).trans (unhide HND4); have c5b : w5.cell? ⟨w2.heap.size, 11, none⟩ = some (.int .i64 (-1)) := (by simp [World.cell?, hnd5]); have HX5 := hide ((unhide HX4).mod hm5 (fun k hk e => by have := (unhide HSX) _ e; have := ((unhide HST4).lt hk).1; omega) (fun k hk => (unhide HST4).kinds (by decide) (by decide) hk)); have HK5 : Hid (Kept (own1 sb) B w w5) := hide ((unhide HK4).mod hm5 (fun k hk => ((unhide HST4).lt hk).1) (unhide HX0).size); clear hst5 hm5 hF5 hnd5)
          | (go_at_call 112; refine (put_spot (unhide HST3) (by have := unhide HLE; omega) R d _ rfl).mono ?_; rintro e w4 ⟨rfl, F4, hst4, hm4, hF4⟩; have HST4 := hide hst4; have hsp4 : w4.heap[w1.heap.size]? = some (.cells #[.int .i64 (j : Int), .int .i64 (d : Int)] 152 (0, 0)) := (hm4.block _ (lt_of_block (unhide HSP3)) (fun e => by have := ((unhide HFL1) _ e).2; omega)).trans (unhide HSP3); have HSP4 := hide hsp4; have hnd4 : w4.heap[w2.heap.size]? = some (Obj.cells #[.int .i64 n.kind, .int .i64 n.space, .string n.name, .slice a2 n.attrs.length c2, .string n.data, .string n.system, .int .i64 n.parent, .int .i64 (headI o.kids), .int .i64 n.last, .int .i64 n.prev, .int .i64 (headI R), .int .i64 (-1)] 37 (0, 0)) := (hm4.block _ (lt_of_block (unhide HND3)) (fun e => by have := ((unhide HFL1) _ e).2; omega)).trans (unhide HND3); have HND4 := hide hnd4; have HN4 : Hid (∀ k, F4 k → ¬ (k = w1.heap.size ∨ k = w2.heap.size)) := hide (fun k hk e => (hF4 k hk).elim (fun h' => by have := ((unhide HFL1) _ h').2; omega) (fun h' => by have := lt_of_block (unhide HSP3); have := lt_of_block (unhide HND3); omega)); have c41 : w4.cell? ⟨w1.heap.size, 1, none⟩ = some (.int .i64 (d : Int)) := (by simp [World.cell?, hsp4]); have c47 : w4.cell? ⟨w2.heap.size, 7, none⟩ = some (.int .i64 (headI o.kids)) := (by simp [World.cell?, hnd4]); have HX4 := hide ((unhide HX3).mod hm4 (fun k hk e => by have := (unhide HSX) _ e; have := ((unhide HFL1) k hk).1; omega) (fun k hk => (unhide HST3).kinds (by decide) (by decide) hk)); have HK4 : Hid (Kept (own1 sb) B w w4) := hide ((unhide HK3).mod hm4 (fun k hk => ((unhide HFL1) k hk).1) (unhide HX0).size); clear hst4 hm4 hF4 hsp4 hnd4))
        obtain ⟨ce1, ce2⟩ := unhide HCE
        have hge := unhide HGE
        have hto := unhide HTOT
        have hsr := unhide HSR
        rw [ce2] at hge hto hsr
        rw [show putS (putS (putS E' R d) o.kids (d + 1)) [] (d + 2) = putS (putS E' R d) o.kids (d + 1) from if_pos rfl] at hge hto hsr
        rw [ce1, List.append_nil] at hto
        go_roundg ((restT os (putS (putS E' R d) o.kids (d + 1))).length)
        case measure => exact hsr.1
        case rel => exact hide ⟨_, F5, A ++ tellE o d, rfl, by omega, unhide HST5, hge, hto, by rw [← unhide HTE]; exact unhide HX5, unhide HK5⟩
      · obtain ⟨i, hi⟩ : ∃ i, innerL o = [i] := ⟨o.inner.toNat, by unfold innerL; rw [if_neg hin]⟩
        obtain ⟨hii, m, hm, _⟩ := (unhide HSIM).inner_facts ho (c := i) (by rw [hi]; simp)
        obtain ⟨nm, hnm, smm⟩ := (unhide HSIM).get hm
        have hinn : n.inner = (i : Int) := by rw [sm.inner]; exact hii
        have e1 : innerK os o = m.kids := by unfold innerK kidsAt; rw [hi]; simp [hm]
        have hmf := path_first (first_path (unhide HSIM) hnm hm)
        have HNI : Hid (∀ W, Below W0.heap.size W0 W → Calls Try.prog 18 #[.pointer (some ⟨bA, 0, none⟩), .int .i64 (i : Int)] W fun e w' => ∃ a c, e = .returned (.tuple #[.agg #[.int .i64 nm.kind, .int .i64 nm.space, .string nm.name, .slice a nm.attrs.length c, .string nm.data, .string nm.system, .int .i64 nm.parent, .int .i64 (headI m.kids), .int .i64 nm.last, .int .i64 nm.prev, .int .i64 nm.next, .int .i64 nm.inner], .int .i64 0]) ∧ Below W.heap.size W w') := hide (fun W hW => (nodeB (unhide HA) hW hnm).mono (by
          rintro e w' ⟨a, c, rfl, _, hb⟩
          refine ⟨a, c, ?_, hb⟩
          rw [hmf]))
        have HCE : Hid (contE o d = [(d + 1, [⟨#[99, 111, 110, 116, 101, 110, 116]⟩])]) := hide (by unfold contE; rw [if_neg hin])
        have HOKC : Hid (EvOk (d + 1, [⟨#[99, 111, 110, 116, 101, 110, 116]⟩])) := hide (cont_ok o (d := d) (by omega) _ (by rw [unhide HCE]; simp))
        have hine : ((i : Int) != -1) = true := by rw [bne_iff_ne]; omega
        have hine2 : ¬ (i : Int) = -1 := by omega
        have HBT2 : Hid (evZ (A ++ tellL n.kind n.space n.name n.data n.system n.attrs d) ≤ 100000000000000) := HBT
        rw [hinn] at HNO
        rw [e1] at HTOT HGE HSR
        clear hne hdep hpj hdj hjl ho hps hd1 hsm hn sm hmx hpr hnx hfp hfi HST HST' sr1 sr2 sr3 hin hinn hi hii hm hnm smm e1 hmf
        set_option maxRecDepth 10000 in
        go_wp2_with (first
          | (go_at_call 114; refine (unhide HEM).mono ?_; rintro e w2 ⟨rfl, rfl⟩)
          | (go_at_call 115; refine (unhide HPOP).mono ?_; rintro e w1 ⟨rfl, F1, hst1, hm1, hF1⟩; have HST1 := hide hst1; have HK1 : Hid (Kept (own1 sb) B w w1) := hide ((unhide HK).mod hm1 (fun k hk => ((unhide HFL) k hk).1) (unhide HX0).size); have HX1 : Hid (X1 sb B A w1) := hide ((unhide HX).mod hm1 (fun k hk e => by have := (unhide HSX) k e; have := ((unhide HFL) k hk).1; omega) (unhide HKD)); have HB1 : Hid (Below W0.heap.size W0 w1) := hide ((unhide HW0).trans ((unhide HK1).below.mono (unhide HBB))); have HFL1 : Hid (∀ k, F1 k → w.heap.size ≤ k ∧ k < w1.heap.size) := hide (fun k hk => hst1.lt hk); clear hst1 hm1 hF1)
          | (go_at_call 18; have _x := unhide HX6; refine (unhide HNI _ (unhide HB6)).mono ?_; rintro e w7 ⟨a7, c7, rfl, hb7⟩; have hsp7 : w7.heap[w1.heap.size]? = some (.cells #[.int .i64 (j : Int), .int .i64 (d : Int)] 152 (0, 0)) := (hb7.block _ (lt_of_block (unhide HSP6))).trans (unhide HSP6); have HSP7 := hide hsp7; have c71 : w7.cell? ⟨w1.heap.size, 1, none⟩ = some (.int .i64 (d : Int)) := (by simp [World.cell?, hsp7]); have hl17 : w1.heap.size < w7.heap.size := lt_of_block hsp7; have HB7 := hide hb7; have HX7 := hide ((unhide HX6).below hb7); have HST7 := hide ((unhide HST6).below hb7); have HK7 : Hid (Kept (own1 sb) B w w7) := hide ((unhide HK6).trans (Kept.of_below hb7 (unhide HX6).size)); clear hb7 hsp7)
          | (go_at_call 18; refine (unhide HNO _ (by exact (unhide HB1).alloc (unhide HB1).size _)).mono ?_; rintro e w2 ⟨a2, c2, rfl, hr2, hb2⟩; have HR2 : Hid (RowA w2 (w1.heap.size + 1) a2 c2 n.attrs) := hide (by simpa using hr2); have hsp2 : w2.heap[w1.heap.size]? = some (.cells #[.int .i64 (j : Int), .int .i64 (d : Int)] 152 (0, 0)) := (hb2.block _ (by simp)).trans (heap_alloc_new _ _); have HSP2 := hide hsp2; have hlt12 : w1.heap.size < w2.heap.size := lt_of_block hsp2; have c20 : w2.cell? ⟨w1.heap.size, 0, none⟩ = some (.int .i64 (j : Int)) := (by simp [World.cell?, hsp2]); have c21 : w2.cell? ⟨w1.heap.size, 1, none⟩ = some (.int .i64 (d : Int)) := (by simp [World.cell?, hsp2]); have HW12 : Hid (Below w1.heap.size w1 w2) := hide (((Below.refl _ w1).alloc (Nat.le_refl _) _).trans (hb2.mono (by simp))); clear hb2 hsp2 hr2)
          | (go_at_call 116; refine (tell1_any (E := A) (by exact ((unhide HX1).below (unhide HW12)).below ((Below.refl _ w2).alloc (Nat.le_refl _) _)) _ _ _ _ _ a2 c2 n.attrs _ _ _ _ _ _ d (w1.heap.size + 1) (by exact (unhide HR2).below ((Below.refl _ w2).alloc (Nat.le_refl _) _)) (fun k hk => by have := (unhide HSX) _ hk; have := (unhide HK1).size; omega) (unhide HAL).1 (unhide HAL).2 (by have := unhide HD1; omega) (unhide HOK) (unhide HBT)).mono ?_; rintro e w3 ⟨rfl, hx3, hk3⟩; have hn1 : ¬ (own1 sb) w1.heap.size := (fun e => by have := (unhide HSX) _ e; have := (unhide HK1).size; omega); have hn2 : ¬ (own1 sb) w2.heap.size := (fun e => by have := (unhide HSX) _ e; have := (unhide HK1).size; omega); have hsp3 : w3.heap[w1.heap.size]? = some (.cells #[.int .i64 (j : Int), .int .i64 (d : Int)] 152 (0, 0)) := hk3.cell (by rw [Below.heap_alloc _ _ _ hlt12]; exact unhide HSP2) hn1 (by decide); have hnd3 : w3.heap[w2.heap.size]? = some (Obj.cells #[.int .i64 n.kind, .int .i64 n.space, .string n.name, .slice a2 n.attrs.length c2, .string n.data, .string n.system, .int .i64 n.parent, .int .i64 (headI o.kids), .int .i64 n.last, .int .i64 n.prev, .int .i64 (headI R), .int .i64 (i : Int)] 37 (0, 0)) := hk3.cell (heap_alloc_new _ _) hn2 (by decide); have HSP3 := hide hsp3; have HND3 := hide hnd3; have c31 : w3.cell? ⟨w1.heap.size, 1, none⟩ = some (.int .i64 (d : Int)) := (by simp [World.cell?, hsp3]); have c3a : w3.cell? ⟨w2.heap.size, 10, none⟩ = some (.int .i64 (headI R)) := (by simp [World.cell?, hnd3]); have HX3 := hide hx3; have HST3 : Hid (StS w3 w.heap.size w.heap.size 149 152 2 E'.length (cellsS E') F1) := hide ((((unhide HST1).below (unhide HW12)).below ((Below.refl _ w2).alloc (Nat.le_refl _) (Obj.cells #[.int .i64 n.kind, .int .i64 n.space, .string n.name, .slice a2 n.attrs.length c2, .string n.data, .string n.system, .int .i64 n.parent, .int .i64 (headI o.kids), .int .i64 n.last, .int .i64 n.prev, .int .i64 (headI R), .int .i64 (i : Int)] 37 (0, 0)))).kept hk3 (by decide) (by decide) (fun k hk e => by have := (unhide HSX) _ e; have := ((unhide HFL1) k hk).1; omega)); have HK3 : Hid (Kept (own1 sb) B w w3) := hide (((unhide HK1).trans (Kept.of_below (((unhide HW12).trans (((Below.refl _ w2).alloc (Nat.le_refl _) (Obj.cells #[.int .i64 n.kind, .int .i64 n.space, .string n.name, .slice a2 n.attrs.length c2, .string n.data, .string n.system, .int .i64 n.parent, .int .i64 (headI o.kids), .int .i64 n.last, .int .i64 n.prev, .int .i64 (headI R), .int .i64 (i : Int)] 37 (0, 0))).mono (Nat.le_of_lt hlt12)))) (unhide HX1).size)).trans hk3); clear hx3 hk3 hn1 hn2 hsp3 hnd3)
          | (go_at_call 112; have _x := unhide HX7; refine (put_spot (by exact (unhide HST7).below ((Below.refl _ w7).alloc (Nat.le_refl _) _)) (by have := unhide HLE; have := put_len E' R d; have := put_len (putS E' R d) o.kids (d + 1); omega) m.kids (d + 2) _ (by simp)).mono ?_; rintro e w8 ⟨rfl, F8, hst8, hm8, hF8⟩; have HST8 := hide hst8; have HX8 := hide (((unhide HX7).below ((Below.refl _ w7).alloc (Nat.le_refl _) _)).mod hm8 (fun k hk e => by have := (unhide HSX) _ e; have := ((unhide HF5) k hk).1; omega) (fun k hk => ((unhide HST7).below ((Below.refl _ w7).alloc (Nat.le_refl _) _)).kinds (by decide) (by decide) hk)); have HK8 : Hid (Kept (own1 sb) B w w8) := hide (((unhide HK7).trans (Kept.of_below ((Below.refl _ w7).alloc (Nat.le_refl _) _) (unhide HX7).size)).mod hm8 (fun k hk => ((unhide HF5) k hk).1) (unhide HX0).size); clear hst8 hm8 hF8)
          | (go_at_call 112; have _x := unhide HX4; refine (put_spot (unhide HST4) (by have := unhide HLE; have := put_len E' R d; omega) o.kids (d + 1) _ (by simp)).mono ?_; rintro e w5 ⟨rfl, F5, hst5, hm5, hF5⟩; have HST5 := hide hst5; have hnd5 : w5.heap[w2.heap.size]? = some (Obj.cells #[.int .i64 n.kind, .int .i64 n.space, .string n.name, .slice a2 n.attrs.length c2, .string n.data, .string n.system, .int .i64 n.parent, .int .i64 (headI o.kids), .int .i64 n.last, .int .i64 n.prev, .int .i64 (headI R), .int .i64 (i : Int)] 37 (0, 0)) := (hm5.block _ (lt_of_block (unhide HND4)) (fun e => (unhide HN4) _ e (.inr rfl))).trans (unhide HND4); have c5b : w5.cell? ⟨w2.heap.size, 11, none⟩ = some (.int .i64 (i : Int)) := (by simp [World.cell?, hnd5]); have HX5 := hide ((unhide HX4).mod hm5 (fun k hk e => by have := (unhide HSX) _ e; have := ((unhide HST4).lt hk).1; omega) (fun k hk => (unhide HST4).kinds (by decide) (by decide) hk)); have HK5 : Hid (Kept (own1 sb) B w w5) := hide ((unhide HK4).mod hm5 (fun k hk => ((unhide HST4).lt hk).1) (unhide HX0).size); have hsp5 : w5.heap[w1.heap.size]? = some (.cells #[.int .i64 (j : Int), .int .i64 (d : Int)] 152 (0, 0)) := (hm5.block _ (lt_of_block (unhide HSP4)) (fun e => (unhide HN4) _ e (.inl rfl))).trans (unhide HSP4); have HSP5 := hide hsp5; have HND5 := hide hnd5; have c51 : w5.cell? ⟨w1.heap.size, 1, none⟩ = some (.int .i64 (d : Int)) := (by simp [World.cell?, hsp5]); have HF5 : Hid (∀ k, F5 k → w.heap.size ≤ k ∧ k ≠ w1.heap.size ∧ k ≠ w2.heap.size) := hide (fun k hk => ⟨(hst5.lt hk).1, (hF5 k hk).elim (fun h' e => (unhide HN4) k h' (.inl e)) (fun h' e => by have := lt_of_block (unhide HSP4); omega), (hF5 k hk).elim (fun h' e => (unhide HN4) k h' (.inr e)) (fun h' e => by have := lt_of_block (unhide HND4); omega)⟩); clear hsp5; clear hst5 hm5 hF5 hnd5)
          | (go_at_call 112; refine (put_spot (unhide HST3) (by have := unhide HLE; omega) R d _ rfl).mono ?_; rintro e w4 ⟨rfl, F4, hst4, hm4, hF4⟩; have HST4 := hide hst4; have hsp4 : w4.heap[w1.heap.size]? = some (.cells #[.int .i64 (j : Int), .int .i64 (d : Int)] 152 (0, 0)) := (hm4.block _ (lt_of_block (unhide HSP3)) (fun e => by have := ((unhide HFL1) _ e).2; omega)).trans (unhide HSP3); have HSP4 := hide hsp4; have hnd4 : w4.heap[w2.heap.size]? = some (Obj.cells #[.int .i64 n.kind, .int .i64 n.space, .string n.name, .slice a2 n.attrs.length c2, .string n.data, .string n.system, .int .i64 n.parent, .int .i64 (headI o.kids), .int .i64 n.last, .int .i64 n.prev, .int .i64 (headI R), .int .i64 (i : Int)] 37 (0, 0)) := (hm4.block _ (lt_of_block (unhide HND3)) (fun e => by have := ((unhide HFL1) _ e).2; omega)).trans (unhide HND3); have HND4 := hide hnd4; have HN4 : Hid (∀ k, F4 k → ¬ (k = w1.heap.size ∨ k = w2.heap.size)) := hide (fun k hk e => (hF4 k hk).elim (fun h' => by have := ((unhide HFL1) _ h').2; omega) (fun h' => by have := lt_of_block (unhide HSP3); have := lt_of_block (unhide HND3); omega)); have c41 : w4.cell? ⟨w1.heap.size, 1, none⟩ = some (.int .i64 (d : Int)) := (by simp [World.cell?, hsp4]); have c47 : w4.cell? ⟨w2.heap.size, 7, none⟩ = some (.int .i64 (headI o.kids)) := (by simp [World.cell?, hnd4]); have HX4 := hide ((unhide HX3).mod hm4 (fun k hk e => by have := (unhide HSX) _ e; have := ((unhide HFL1) k hk).1; omega) (fun k hk => (unhide HST3).kinds (by decide) (by decide) hk)); have HK4 : Hid (Kept (own1 sb) B w w4) := hide ((unhide HK3).mod hm4 (fun k hk => ((unhide HFL1) k hk).1) (unhide HX0).size); clear hst4 hm4 hF4 hsp4 hnd4)
          | (go_at_call 74; refine (line1 (E := A ++ tellL n.kind n.space n.name n.data n.system n.attrs d) (by exact (unhide HX5).below ((Below.refl _ w5).alloc (Nat.le_refl _) _)) [⟨#[99, 111, 110, 116, 101, 110, 116]⟩] _ _ rfl (by exact heap_alloc_new _ _) (fun e => by have := (unhide HSX) _ e; have := (unhide HK5).size; omega) (d + 1) _ (by simp) (unhide HOKC) (unhide HBT2)).mono ?_; rintro e w6 ⟨rfl, hx6, hk6⟩; have HX6 := hide hx6; have hka : Kept (own1 sb) B w5 w6 := (Kept.of_below ((Below.refl _ w5).alloc (Nat.le_refl _) _) (unhide HX5).size).trans hk6; have HK6 : Hid (Kept (own1 sb) B w w6) := hide ((unhide HK5).trans hka); have HST6 : Hid (StS w6 w.heap.size w.heap.size 149 152 2 (putS (putS E' R d) o.kids (d + 1)).length (cellsS (putS (putS E' R d) o.kids (d + 1))) F5) := hide ((unhide HST5).kept hka (by decide) (by decide) (fun k hk e => by have := (unhide HSX) _ e; have := ((unhide HF5) k hk).1; omega)); have hsp6 : w6.heap[w1.heap.size]? = some (.cells #[.int .i64 (j : Int), .int .i64 (d : Int)] 152 (0, 0)) := hka.cell (unhide HSP5) (fun e => by have := (unhide HSX) _ e; have := (unhide HK1).size; omega) (by decide); have hnd6 : w6.heap[w2.heap.size]? = some (Obj.cells #[.int .i64 n.kind, .int .i64 n.space, .string n.name, .slice a2 n.attrs.length c2, .string n.data, .string n.system, .int .i64 n.parent, .int .i64 (headI o.kids), .int .i64 n.last, .int .i64 n.prev, .int .i64 (headI R), .int .i64 (i : Int)] 37 (0, 0)) := hka.cell (unhide HND5) (fun e => by have := (unhide HSX) _ e; have := (unhide HK1).size; omega) (by decide); have HSP6 := hide hsp6; have c6b : w6.cell? ⟨w2.heap.size, 11, none⟩ = some (.int .i64 (i : Int)) := (by simp [World.cell?, hnd6]); have HB6 : Hid (Below W0.heap.size W0 w6) := hide ((unhide HW0).trans ((unhide HK6).below.mono (unhide HBB))); clear hx6 hk6 hka hsp6 hnd6))
        have hge := unhide HGE
        have hto := unhide HTOT
        have hsr := unhide HSR
        rw [unhide HCE] at hto
        go_roundg ((restT os (putS (putS (putS E' R d) o.kids (d + 1)) m.kids (d + 2))).length)
        case measure => exact hsr.1
        case rel => exact hide ⟨_, F8, A ++ (tellE o d ++ [(d + 1, [⟨#[99, 111, 110, 116, 101, 110, 116]⟩])]), rfl, by omega, unhide HST8, hge, hto, by rw [← unhide HTE, ← List.append_assoc]; exact unhide HX8, unhide HK8⟩
end Go.Proofs.Ytlbkoafeedlfaaa
