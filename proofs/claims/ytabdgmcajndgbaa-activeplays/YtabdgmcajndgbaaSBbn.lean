/-
  The walk of ActivePlays.
-/
import Derived.Test.YtabdgmcajndgbaaSBbl
import Derived.Test.YtabdgmcajndgbaaSBbm
import Derived.Deep.RegionHeld3
import Derived.Deep.RegionWith
namespace Go.Proofs.Ytabdgmcajndgbaa
open Go.RowKit Go.Sort

theorem lawake_any (w : World) : Calls Try.prog 14 #[] w fun e w' => e = .returned (.bool true) ∧ Below w.heap.size w w' := by
  have H0 := hide (Env.start w)
  go_enter Try.func14, Try.ntmps14
  go_wp2_with (first
    | (go_at_call 15; refine (env_new (unhide H0)).mono ?_; rintro e w1 ⟨bA, rfl, hv⟩; have H1 := hide hv; clear hv)
    | (go_at_call 5; refine (env_lnew (unhide H1) (i := 0) (bA := bA) rfl).mono ?_; rintro e w2 ⟨bL, rfl, hv⟩; have H2 := hide hv; clear hv)
    | (go_at_call 23; refine (env_lmark (unhide H2) (j := 1) (bL := bL) (bA := bA) (es := []) rfl (by simp)).mono ?_; rintro e w3 ⟨rfl, hv⟩; have H3 := hide hv; clear hv)
    | (go_at_call 8; refine (env_llen (unhide H3) (j := 1) (bL := bL) (bA := bA) (es := [mark0]) rfl).mono ?_; rintro e w4 ⟨rfl, rfl⟩))
  go_ret
  exact ⟨rfl, (unhide H3).bel⟩
section
variable {w W W' : World} {bA bR bL bQ : Nat} {ks : List Key} {qs : List EntQ}
theorem e4_more (h : E4 w W bA bR bL bQ ks qs) (hb : Below W.heap.size W W') : E4 w W' bA bR bL bQ ks qs := Env.more h hb
theorem e4_bel (h : E4 w W bA bR bL bQ ks qs) : Below w.heap.size w W := Env.bel h
theorem e4_len (h : E4 w W bA bR bL bQ ks qs) : ∃ va vc, W.cell? ⟨bQ, 1, none⟩ = some (.slice va qs.length vc) := by
  obtain ⟨F, v, hq, _, _⟩ := Env.q (show Env w W _ from h) (i := 3) rfl
  obtain ⟨va, vc, rfl⟩ := hq.len
  exact ⟨va, vc, hq.cells.2.1⟩
theorem e4_attrs (h : E4 w W bA bR bL bQ ks qs) {x : EntQ} (hx : x ∈ qs) : AttrsIn W x.a x.tok.attrs := by
  obtain ⟨F, v, hq, _, _⟩ := Env.q (show Env w W _ from h) (i := 3) rfl
  exact (hq.anyAttr hx).1
theorem e4_llen (h : E4 w W bA bR bL bQ ks qs) : Calls Try.prog 8 #[.pointer (some ⟨bL, 0, none⟩)] W fun e w' => e = .returned (.int .i64 qs.length) ∧ W = w' := by
  have := env_llen (show Env w W _ from h) (j := 2) (bL := bL) (bA := bA) (es := esOf ks qs) rfl
  rw [esOf_len] at this
  exact this
theorem e4_find (h : E4 w W bA bR bL bQ ks qs) (hg : GoodQ ks qs) (hl : qs.length < 1000000000000) (id : Int) : Calls Try.prog 9 #[.pointer (some ⟨bL, 0, none⟩), .int .i64 id] W fun e w' => e = .returned (.int .i64 (findQ qs id)) ∧ Below W.heap.size W w' := by
  obtain ⟨F, ⟨bW, v, ps, R, hm, hF⟩, _⟩ := Env.li (show Env w W _ from h) (j := 2) (bL := bL) (bA := bA) (es := esOf ks qs) rfl
  have := lfind_any hm (by rw [esOf_len]; exact hl) id
  have e := place_find hg id
  unfold placeE at e
  rw [e] at this
  exact this
theorem e4_qfind (h : E4 w W bA bR bL bQ ks qs) (hl : qs.length < 1000000000000) (id : Int) : Calls Try.prog 10 #[.pointer (some ⟨bQ, 0, none⟩), .int .i64 id] W fun e w' => e = .returned (.int .i64 (findQ qs id)) ∧ W = w' :=
  env_qfind (show Env w W _ from h) (j := 3) rfl hl id
theorem e4_at (h : E4 w W bA bR bL bQ ks qs) (n : Nat) {x : EntQ} (hx : qs[n]? = some x) : Calls Try.prog 11 #[.pointer (some ⟨bL, 0, none⟩), .int .i64 n] W fun e w' => ∃ ao ac, e = .returned (.tuple #[entV (eOf ks x) (.slice ao x.tok.attrs.length ac), .int .i64 0]) ∧ AttrsIn w' ao x.tok.attrs ∧ E4 w w' bA bR bL bQ ks qs :=
  (env_lat (show Env w W _ from h) (j := 2) (bL := bL) (bA := bA) (es := esOf ks qs) rfl n (x := eOf ks x) (by rw [esOf_get, hx]; rfl)).mono fun _ _ ⟨a, b, c, d, e⟩ => ⟨a, b, c, d.ins, e⟩
theorem e4_at_no (h : E4 w W bA bR bL bQ ks qs) (n : Int) (hn : n < 0 ∨ (qs.length : Int) ≤ n) : Calls Try.prog 11 #[.pointer (some ⟨bL, 0, none⟩), .int .i64 n] W fun e w' => e = .returned (.tuple #[zeroEV, .int .i64 1]) ∧ E4 w w' bA bR bL bQ ks qs :=
  env_lat_no (show Env w W _ from h) (j := 2) (bL := bL) (bA := bA) (es := esOf ks qs) rfl n (by rw [esOf_len]; exact hn)
theorem e4_qat (h : E4 w W bA bR bL bQ ks qs) (n : Nat) {x : EntQ} (hx : qs[n]? = some x) : Calls Try.prog 12 #[.pointer (some ⟨bQ, 0, none⟩), .int .i64 n] W fun e w' => e = .returned (.tuple #[x.agg, .int .i64 0]) ∧ E4 w w' bA bR bL bQ ks qs :=
  env_qat (show Env w W _ from h) (j := 3) rfl n hx
theorem e4_qat_no (h : E4 w W bA bR bL bQ ks qs) (n : Int) (hn : n < 0 ∨ (qs.length : Int) ≤ n) : Calls Try.prog 12 #[.pointer (some ⟨bQ, 0, none⟩), .int .i64 n] W fun e w' => e = .returned (.tuple #[zeroEV, .int .i64 1]) ∧ E4 w w' bA bR bL bQ ks qs :=
  env_qat_no (show Env w W _ from h) (j := 3) rfl n hn
end
set_option maxRecDepth 100000 in
set_option maxHeartbeats 16000000 in
theorem plays_walk (ns : List ByteArray) (a : Option Addr) (cap : Nat) (l : List OpM) (b : Option Addr) (cb : Nat) (w : World) (hns : TxtIn w a ns) (hnl : ns.length ≤ 140737488351232) (hin : OpsIn w b l) (hll : l.length * 152 ≤ 140737488351232) : Calls Try.prog 3 #[.slice a ns.length cap, .slice b l.length cb] w fun e w' => e = .returned (.bool true) ∧ Below w.heap.size w w' := by
  have HAR := hide (arenas_any w a ns cap hns hnl)
  have HIN := hide hin
  have HLL := hide hll
  have hlz : (l.length : Int) ≤ 140737488351232 := by omega
  generalize hks : ksT ns = ks at HAR
  clear hns hnl hin hll hks
  go_enter Try.func3, Try.ntmps3
  go_wp2_with (first
    | (go_at_call 4; refine (unhide HAR).mono ?_; rintro e w1 ⟨bA, bR, rfl, hv⟩; have HV1 := hide hv; clear hv)
    | (go_at_call 5; refine (env_lnew (unhide HV1) (i := 0) (bA := bA) rfl).mono ?_; rintro e w2 ⟨bL, rfl, hv⟩; have HV2 := hide hv; clear hv)
    | (go_at_call 6; refine (aqnew_any (unhide HV2) (bR := bR)).mono ?_; rintro e w3 ⟨bQ, rfl, hv⟩; have HV3 := hide hv; clear hv))
  have HE0 : Hid (E4 w w3 bA bR bL bQ ks []) := hide (unhide HV3)
  go_loopg [10] l.length (fun g s10 wr => ∃ (i : Nat) (qs : List EntQ), i + g = l.length ∧ s10 = .int .i64 (i : Int) ∧ E4 w wr bA bR bL bQ ks qs ∧ GoodQ ks qs ∧ qs.length ≤ i)
  case atStart => exact ⟨0, [], by omega, rfl, unhide HE0, GoodQ.nil ks, Nat.zero_le _⟩
  case round =>
    obtain ⟨i, qs, hig, rfl, he, hgd, hql⟩ := hrel
    by_cases hi : i < l.length
    · obtain ⟨z, hz⟩ : ∃ z, l[i]? = some z := ⟨_, List.getElem?_eq_getElem hi⟩
      obtain ⟨hok, ba, off, rfl, hc⟩ := (unhide HIN).cells i z hz
      have HSC : Hid (∀ W, Below w.heap.size w W → ∀ (j : Nat) u, z.cells[j]? = some u → W.cell? ⟨ba, off + i * 14 + j, none⟩ = some u) := hide (fun W hb j u hu => cell_kept hb (hc j u hu))
      have hqb : qs.length < 1000000000000 := by have := unhide HLL; omega
      have hsg := hgd.step z hok
      have HPL := hide (fun W (hW : E4 w W bA bR bL bQ ks qs) => play_any hW hgd hqb z hok)
      have hpb : (stepQ ks qs z).length < 1000000000000 := by have := unhide HLL; omega
      have hpi : (stepQ ks qs z).length ≤ i + 1 := by omega
      obtain ⟨ow, oa, ob, on, ot, ⟨t0, t1, t2, t3, t4, t5, t6, t7, ta⟩, pa, pc⟩ := z
      simp only [OpM.cells, TokM.cells] at HSC HPL
      generalize stepQ ks qs ⟨ow, oa, ob, on, ot, ⟨t0, t1, t2, t3, t4, t5, t6, t7, ta⟩, pa, pc⟩ = ps at *
      have HG := hide hsg.1
      have HPI := hide hpi
      have HPB := hide hpb
      have HFI := hide (fun W (hW : E4 w W bA bR bL bQ ks ps) => e4_find hW hsg.1 hpb oa)
      have HQF := hide (fun W (hW : E4 w W bA bR bL bQ ks ps) => e4_qfind hW hpb oa)
      have HLN := hide (fun W (hW : E4 w W bA bR bL bQ ks ps) => e4_llen hW)
      generalize findQ ps oa = fq at *
      have hiz : (i : Int) < (l.length : Int) := by omega
      have hi0 : (0 : Int) ≤ (i : Int) := by omega
      have HE := hide he
      have HIG := hide hig
      have HHI := hide hi
      have hcb := e4_bel he
      have c0 := (unhide HSC) _ hcb 0 _ rfl
      have c1 := (unhide HSC) _ hcb 1 _ rfl
      have c2 := (unhide HSC) _ hcb 2 _ rfl
      have c3 := (unhide HSC) _ hcb 3 _ rfl
      have c4 := (unhide HSC) _ hcb 4 _ rfl
      have c5 := (unhide HSC) _ hcb 5 _ rfl
      have c6 := (unhide HSC) _ hcb 6 _ rfl
      have c7 := (unhide HSC) _ hcb 7 _ rfl
      have c8 := (unhide HSC) _ hcb 8 _ rfl
      have c9 := (unhide HSC) _ hcb 9 _ rfl
      have c10 := (unhide HSC) _ hcb 10 _ rfl
      have c11 := (unhide HSC) _ hcb 11 _ rfl
      have c12 := (unhide HSC) _ hcb 12 _ rfl
      have c13 := (unhide HSC) _ hcb 13 _ rfl
      rw [Nat.add_zero] at c0
      clear he hgd hql hz hok hc hqb hsg hpb hpi hcb hig hi
      go_wp2
      refine wp_region_any (by kernel_rfl) ?_
      try (change wpAny _ _ _ _ _ _ _ (World.drew _))
      refine wpAny_take (i := 0) (v := ?_) rfl (by kernel_rfl) (by kernel_rfl) (by kernel_rfl) (fun _ _ _ h => h) (Or.inl ⟨by rfl, ?_⟩) ?_
      rotate_left
      · first | (intro W0; go_simp; done) | (intro W0; go_simp; with_reducible rfl)
      (try simp only [Act.put]); (try simp only [List.setIfInBounds_toArray]); (try simp only [List.set_cons_succ]); (try simp only [List.set_cons_zero])
      refine wpAny_take (i := 1) (v := ?_) rfl (by kernel_rfl) (by kernel_rfl) (by kernel_rfl) (fun _ _ _ h => h) (Or.inl ⟨by rfl, ?_⟩) ?_
      rotate_left
      · first | (intro W0; go_simp; done) | (intro W0; go_simp; with_reducible rfl)
      (try simp only [Act.put]); (try simp only [List.setIfInBounds_toArray]); (try simp only [List.set_cons_succ]); (try simp only [List.set_cons_zero])
      refine wpAny_take (i := 2) (v := ?_) rfl (by kernel_rfl) (by kernel_rfl) (by kernel_rfl) (fun _ _ _ h => h) (Or.inl ⟨by rfl, ?_⟩) ?_
      rotate_left
      · first | (intro W0; go_simp; done) | (intro W0; go_simp; with_reducible rfl)
      (try simp only [Act.put]); (try simp only [List.setIfInBounds_toArray]); (try simp only [List.set_cons_succ]); (try simp only [List.set_cons_zero])
      refine wpAny_take (i := 3) (v := ?_) rfl (by kernel_rfl) (by kernel_rfl) (by kernel_rfl) (fun _ _ _ h => h) (Or.inl ⟨by rfl, ?_⟩) ?_
      rotate_left
      · first | (intro W0; go_simp; done) | (intro W0; go_simp; with_reducible rfl)
      (try simp only [Act.put]); (try simp only [List.setIfInBounds_toArray]); (try simp only [List.set_cons_succ]); (try simp only [List.set_cons_zero])
      refine wpAny_ready (rs := [4]) (by kernel_rfl) (by simp) ?_
      refine AllReady.cons rfl (fun K hK => ?_) AllReady.nil
      go_simp
      refine hK _ _ ?_
      clear hK K
      (try simp only [Act.put]); (try simp only [List.setIfInBounds_toArray]); (try simp only [List.set_cons_succ]); (try simp only [List.set_cons_zero])
      refine wpAny_ready (rs := [5]) (by kernel_rfl) (by simp) ?_
      refine AllReady.cons rfl (fun K hK => ?_) AllReady.nil
      go_simp
      refine hK _ _ ?_
      clear hK K
      (try simp only [Act.put]); (try simp only [List.setIfInBounds_toArray]); (try simp only [List.set_cons_succ]); (try simp only [List.set_cons_zero])
      refine wpAny_ready (rs := [6]) (by kernel_rfl) (by simp) ?_
      refine AllReady.cons rfl (fun K hK => ?_) AllReady.nil
      go_simp
      go_wp2_with (first
        | (go_at_call 7; refine ((unhide HPL) _ (by with_reducible (first | exact unhide HE | exact e4_more (unhide HE) (Below.refl _ _).drew | exact e4_more (unhide HE) (Below.refl _ _).drew.drew))).mono ?_; rintro e w4 ⟨rfl, hv⟩; have HF := hide hv; obtain ⟨va, vc, k1⟩ := e4_len hv; have ca := (unhide HSC) _ (e4_bel hv) 1 _ rfl; clear hv; clear c0 c1 c2 c3 c4 c5 c6 c7 c8 c9 c10 c11 c12 c13))
      try (refine hK _ _ ?_; clear hK K)
      (try simp only [Act.put]); (try simp only [List.setIfInBounds_toArray]); (try simp only [List.set_cons_succ]); (try simp only [List.set_cons_zero])
      have hS4 : (fun W' => W'.cell? ⟨ba, off + i * 14 + 1, none⟩ = some (.int .i64 oa) ∧ W'.cell? ⟨bQ, 1, none⟩ = some (.slice va ps.length vc)) w4 := ⟨ca, k1⟩
      refine wpAny_of_held (S := (fun W' => W'.cell? ⟨ba, off + i * 14 + 1, none⟩ = some (.int .i64 oa) ∧ W'.cell? ⟨bQ, 1, none⟩ = some (.slice va ps.length vc))) _ _ _ _ ?_
      refine wpAnyH_take (i := 7) (oi := ({ dst := some 51, op := Op.unOp UnOp.not 4 (Operand.tmp 50), type := 4, pos := "law.go:81", after := #[{ on := 6, ground := Ground.data }], guard := none } : Oper)) (v := ?_) rfl (by kernel_rfl) (by kernel_rfl) (by kernel_rfl) (fun _ _ _ h => h) (Or.inl ⟨by rfl, ?_⟩) (by assumption) ?_
      rotate_left
      · first | (intro W0 hSw; (try dsimp only at hSw); go_simp; done) | (intro W0 hSw; (try dsimp only at hSw); go_simp; with_reducible rfl)
      (try simp only [Act.put]); (try simp only [List.setIfInBounds_toArray]); (try simp only [List.set_cons_succ]); (try simp only [List.set_cons_zero])
      refine wpAnyH_take (i := 8) (oi := ({ dst := some 52, op := Op.move (Operand.tmp 51), type := 4, pos := "law.go:81", after := #[{ on := 7, ground := Ground.data }, { on := 6, ground := Ground.chain }], guard := none } : Oper)) (v := ?_) rfl (by kernel_rfl) (by kernel_rfl) (by kernel_rfl) (fun _ _ _ h => h) (Or.inl ⟨by rfl, ?_⟩) (by assumption) ?_
      rotate_left
      · first | (intro W0 hSw; (try dsimp only at hSw); go_simp; done) | (intro W0 hSw; (try dsimp only at hSw); go_simp; with_reducible rfl)
      (try simp only [Act.put]); (try simp only [List.setIfInBounds_toArray]); (try simp only [List.set_cons_succ]); (try simp only [List.set_cons_zero])
      refine wpAnyH_take (i := 9) (oi := ({ dst := some 53, op := Op.move (Operand.tmp 7), type := 28, pos := "law.go:81", after := #[{ on := 8, ground := Ground.guard }], guard := some (8, false) } : Oper)) (v := ?_) rfl (by kernel_rfl) (by kernel_rfl) (by kernel_rfl) (fun _ _ _ h => h) (Or.inl ⟨by rfl, ?_⟩) (by assumption) ?_
      rotate_left
      · first | (intro W0 hSw; (try dsimp only at hSw); go_simp; done) | (intro W0 hSw; (try dsimp only at hSw); go_simp; with_reducible rfl)
      (try simp only [Act.put]); (try simp only [List.setIfInBounds_toArray]); (try simp only [List.set_cons_succ]); (try simp only [List.set_cons_zero])
      refine wpAnyH_take (i := 11) (oi := ({ dst := some 55, op := Op.move (Operand.tmp 9), type := 32, pos := "law.go:81", after := #[{ on := 8, ground := Ground.guard }], guard := some (8, false) } : Oper)) (v := ?_) rfl (by kernel_rfl) (by kernel_rfl) (by kernel_rfl) (fun _ _ _ h => h) (Or.inl ⟨by rfl, ?_⟩) (by assumption) ?_
      rotate_left
      · first | (intro W0 hSw; (try dsimp only at hSw); go_simp; done) | (intro W0 hSw; (try dsimp only at hSw); go_simp; with_reducible rfl)
      (try simp only [Act.put]); (try simp only [List.setIfInBounds_toArray]); (try simp only [List.set_cons_succ]); (try simp only [List.set_cons_zero])
      refine wpAnyH_take (i := 12) (oi := ({ dst := some 56, op := Op.nilCheck (Operand.tmp 55), type := 0, pos := "law.go:81", after := #[{ on := 11, ground := Ground.data }, { on := 8, ground := Ground.guard }], guard := some (8, false) } : Oper)) (v := ?_) rfl (by kernel_rfl) (by kernel_rfl) (by kernel_rfl) (fun _ _ _ h => h) (Or.inl ⟨by rfl, ?_⟩) (by assumption) ?_
      rotate_left
      · first | (intro W0 hSw; (try dsimp only at hSw); go_simp; done) | (intro W0 hSw; (try dsimp only at hSw); go_simp; with_reducible rfl)
      (try simp only [Act.put]); (try simp only [List.setIfInBounds_toArray]); (try simp only [List.set_cons_succ]); (try simp only [List.set_cons_zero])
      refine wpAnyH_take (i := 13) (oi := ({ dst := some 57, op := Op.fieldAddr 43 (Operand.tmp 56) 1, type := 0, pos := "law.go:81", after := #[{ on := 12, ground := Ground.data }, { on := 8, ground := Ground.guard }], guard := some (8, false) } : Oper)) (v := ?_) rfl (by kernel_rfl) (by kernel_rfl) (by kernel_rfl) (fun _ _ _ h => h) (Or.inl ⟨by rfl, ?_⟩) (by assumption) ?_
      rotate_left
      · first | (intro W0 hSw; (try dsimp only at hSw); go_simp; done) | (intro W0 hSw; (try dsimp only at hSw); go_simp; with_reducible rfl)
      (try simp only [Act.put]); (try simp only [List.setIfInBounds_toArray]); (try simp only [List.set_cons_succ]); (try simp only [List.set_cons_zero])
      refine wpAnyH_take (i := 14) (oi := ({ dst := some 58, op := Op.load 41 (Operand.tmp 57), type := 41, pos := "law.go:81", after := #[{ on := 13, ground := Ground.data }, { on := 8, ground := Ground.guard }], guard := some (8, false) } : Oper)) (v := ?_) rfl (by kernel_rfl) (by kernel_rfl) (by kernel_rfl) (fun _ _ _ h => h) (Or.inl ⟨by rfl, ?_⟩) (by assumption) ?_
      rotate_left
      · first | (intro W0 hSw; (try dsimp only at hSw); go_simp; done) | (intro W0 hSw; (try dsimp only at hSw); go_simp; with_reducible rfl)
      (try simp only [Act.put]); (try simp only [List.setIfInBounds_toArray]); (try simp only [List.set_cons_succ]); (try simp only [List.set_cons_zero])
      refine wpAnyH_take (i := 15) (oi := ({ dst := some 59, op := Op.call { callee := Callee.builtin Builtin.len, args := #[Operand.tmp 58], argTypes := #[41] }, type := 3, pos := "law.go:81", after := #[{ on := 14, ground := Ground.data }, { on := 8, ground := Ground.guard }], guard := some (8, false) } : Oper)) (v := ?_) rfl (by kernel_rfl) (by kernel_rfl) (by kernel_rfl) (fun _ _ _ h => h) (Or.inl ⟨by rfl, ?_⟩) (by assumption) ?_
      rotate_left
      · first | (intro W0 hSw; (try dsimp only at hSw); go_simp; done) | (intro W0 hSw; (try dsimp only at hSw); go_simp; with_reducible rfl)
      (try simp only [Act.put]); (try simp only [List.setIfInBounds_toArray]); (try simp only [List.set_cons_succ]); (try simp only [List.set_cons_zero])
      refine wpAnyH_ready (rs := [10]) (by kernel_rfl) (by simp) ?_
      refine AllReadyH.cons rfl (fun K hK => ?_) AllReadyH.nil
      go_simp
      (go_at_call 8; refine ((unhide HLN) _ (by with_reducible (first | exact unhide HF | exact e4_more (unhide HF) (Below.refl _ _).drew | exact e4_more (unhide HF) (Below.refl _ _).drew.drew))).mono ?_; rintro e w5 ⟨rfl, rfl⟩)
      refine hK.out _ _ ?_ (fun hHeld => ?_)
      · exact hS4
      clear hK K
      (try simp only [Act.put]); (try simp only [List.setIfInBounds_toArray]); (try simp only [List.set_cons_succ]); (try simp only [List.set_cons_zero])
      refine wpAnyH_take (i := 16) (oi := ({ dst := some 60, op := Op.binOp BinOp.neq 3 (Operand.tmp 54) (Operand.tmp 59) 3, type := 4, pos := "law.go:81", after := #[{ on := 10, ground := Ground.data }, { on := 15, ground := Ground.data }, { on := 8, ground := Ground.guard }], guard := some (8, false) } : Oper)) (v := ?_) rfl (by kernel_rfl) (by kernel_rfl) (by kernel_rfl) (fun _ _ _ h => h) (Or.inl ⟨by rfl, ?_⟩) (by assumption) ?_
      rotate_left
      · first | (intro W0 hSw; (try dsimp only at hSw); go_simp; done) | (intro W0 hSw; (try dsimp only at hSw); go_simp; with_reducible rfl)
      (try simp only [Act.put]); (try simp only [List.setIfInBounds_toArray]); (try simp only [List.set_cons_succ]); (try simp only [List.set_cons_zero])
      refine wpAnyH_take (i := 17) (oi := ({ dst := some 61, op := Op.pick (Operand.tmp 52) (Operand.const (Value.bool true)) (Operand.tmp 60), type := 4, pos := "law.go:81", after := #[{ on := 8, ground := Ground.data }, { on := 16, ground := Ground.data }], guard := none } : Oper)) (v := ?_) rfl (by kernel_rfl) (by kernel_rfl) (by kernel_rfl) (fun _ _ _ h => h) (Or.inl ⟨by rfl, ?_⟩) (by assumption) ?_
      rotate_left
      · first | (intro W0 hSw; (try dsimp only at hSw); go_simp; done) | (intro W0 hSw; (try dsimp only at hSw); go_simp; with_reducible rfl)
      (try simp only [Act.put]); (try simp only [List.setIfInBounds_toArray]); (try simp only [List.set_cons_succ]); (try simp only [List.set_cons_zero])
      refine wpAnyH_take (i := 18) (oi := ({ dst := some 62, op := Op.move (Operand.tmp 61), type := 4, pos := "law.go:81", after := #[{ on := 17, ground := Ground.data }, { on := 10, ground := Ground.chain }], guard := none } : Oper)) (v := ?_) rfl (by kernel_rfl) (by kernel_rfl) (by kernel_rfl) (fun _ _ _ h => h) (Or.inl ⟨by rfl, ?_⟩) (by assumption) ?_
      rotate_left
      · first | (intro W0 hSw; (try dsimp only at hSw); go_simp; done) | (intro W0 hSw; (try dsimp only at hSw); go_simp; with_reducible rfl)
      (try simp only [Act.put]); (try simp only [List.setIfInBounds_toArray]); (try simp only [List.set_cons_succ]); (try simp only [List.set_cons_zero])
      refine wpAnyH_take (i := 19) (oi := ({ dst := some 63, op := Op.move (Operand.tmp 7), type := 28, pos := "law.go:81", after := #[{ on := 18, ground := Ground.guard }], guard := some (18, false) } : Oper)) (v := ?_) rfl (by kernel_rfl) (by kernel_rfl) (by kernel_rfl) (fun _ _ _ h => h) (Or.inl ⟨by rfl, ?_⟩) (by assumption) ?_
      rotate_left
      · first | (intro W0 hSw; (try dsimp only at hSw); go_simp; done) | (intro W0 hSw; (try dsimp only at hSw); go_simp; with_reducible rfl)
      (try simp only [Act.put]); (try simp only [List.setIfInBounds_toArray]); (try simp only [List.set_cons_succ]); (try simp only [List.set_cons_zero])
      refine wpAnyH_take (i := 20) (oi := ({ dst := some 64, op := Op.move (Operand.tmp 1), type := 23, pos := "law.go:81", after := #[{ on := 18, ground := Ground.guard }], guard := some (18, false) } : Oper)) (v := ?_) rfl (by kernel_rfl) (by kernel_rfl) (by kernel_rfl) (fun _ _ _ h => h) (Or.inl ⟨by rfl, ?_⟩) (by assumption) ?_
      rotate_left
      · first | (intro W0 hSw; (try dsimp only at hSw); go_simp; done) | (intro W0 hSw; (try dsimp only at hSw); go_simp; with_reducible rfl)
      (try simp only [Act.put]); (try simp only [List.setIfInBounds_toArray]); (try simp only [List.set_cons_succ]); (try simp only [List.set_cons_zero])
      refine wpAnyH_take (i := 21) (oi := ({ dst := some 65, op := Op.move (Operand.tmp 10), type := 3, pos := "law.go:81", after := #[{ on := 18, ground := Ground.guard }], guard := some (18, false) } : Oper)) (v := ?_) rfl (by kernel_rfl) (by kernel_rfl) (by kernel_rfl) (fun _ _ _ h => h) (Or.inl ⟨by rfl, ?_⟩) (by assumption) ?_
      rotate_left
      · first | (intro W0 hSw; (try dsimp only at hSw); go_simp; done) | (intro W0 hSw; (try dsimp only at hSw); go_simp; with_reducible rfl)
      (try simp only [Act.put]); (try simp only [List.setIfInBounds_toArray]); (try simp only [List.set_cons_succ]); (try simp only [List.set_cons_zero])
      refine wpAnyH_take (i := 22) (oi := ({ dst := some 66, op := Op.indexAddr 23 (Operand.tmp 64) (Operand.tmp 65), type := 0, pos := "law.go:81", after := #[{ on := 20, ground := Ground.data }, { on := 21, ground := Ground.data }, { on := 18, ground := Ground.guard }], guard := some (18, false) } : Oper)) (v := ?_) rfl (by kernel_rfl) (by kernel_rfl) (by kernel_rfl) (fun _ _ _ h => h) (Or.inl ⟨by rfl, ?_⟩) (by assumption) ?_
      rotate_left
      · first | (intro W0 hSw; (try dsimp only at hSw); go_simp; done) | (intro W0 hSw; (try dsimp only at hSw); go_simp; with_reducible rfl)
      (try simp only [Act.put]); (try simp only [List.setIfInBounds_toArray]); (try simp only [List.set_cons_succ]); (try simp only [List.set_cons_zero])
      refine wpAnyH_take (i := 23) (oi := ({ dst := some 67, op := Op.fieldAddr 39 (Operand.tmp 66) 1, type := 0, pos := "law.go:81", after := #[{ on := 22, ground := Ground.data }, { on := 18, ground := Ground.guard }], guard := some (18, false) } : Oper)) (v := ?_) rfl (by kernel_rfl) (by kernel_rfl) (by kernel_rfl) (fun _ _ _ h => h) (Or.inl ⟨by rfl, ?_⟩) (by assumption) ?_
      rotate_left
      · first | (intro W0 hSw; (try dsimp only at hSw); go_simp; done) | (intro W0 hSw; (try dsimp only at hSw); go_simp; with_reducible rfl)
      (try simp only [Act.put]); (try simp only [List.setIfInBounds_toArray]); (try simp only [List.set_cons_succ]); (try simp only [List.set_cons_zero])
      refine wpAnyH_take (i := 24) (oi := ({ dst := some 68, op := Op.load 3 (Operand.tmp 67), type := 3, pos := "law.go:81", after := #[{ on := 23, ground := Ground.data }, { on := 18, ground := Ground.guard }], guard := some (18, false) } : Oper)) (v := ?_) rfl (by kernel_rfl) (by kernel_rfl) (by kernel_rfl) (fun _ _ _ h => h) (Or.inl ⟨by rfl, ?_⟩) (by assumption) ?_
      rotate_left
      · first | (intro W0 hSw; (try dsimp only at hSw); go_simp; done) | (intro W0 hSw; (try dsimp only at hSw); go_simp; with_reducible rfl)
      (try simp only [Act.put]); (try simp only [List.setIfInBounds_toArray]); (try simp only [List.set_cons_succ]); (try simp only [List.set_cons_zero])
      refine wpAnyH_take (i := 26) (oi := ({ dst := some 70, op := Op.move (Operand.tmp 9), type := 32, pos := "law.go:81", after := #[{ on := 18, ground := Ground.guard }], guard := some (18, false) } : Oper)) (v := ?_) rfl (by kernel_rfl) (by kernel_rfl) (by kernel_rfl) (fun _ _ _ h => h) (Or.inl ⟨by rfl, ?_⟩) (by assumption) ?_
      rotate_left
      · first | (intro W0 hSw; (try dsimp only at hSw); go_simp; done) | (intro W0 hSw; (try dsimp only at hSw); go_simp; with_reducible rfl)
      (try simp only [Act.put]); (try simp only [List.setIfInBounds_toArray]); (try simp only [List.set_cons_succ]); (try simp only [List.set_cons_zero])
      refine wpAnyH_take (i := 27) (oi := ({ dst := some 71, op := Op.move (Operand.tmp 1), type := 23, pos := "law.go:81", after := #[{ on := 18, ground := Ground.guard }], guard := some (18, false) } : Oper)) (v := ?_) rfl (by kernel_rfl) (by kernel_rfl) (by kernel_rfl) (fun _ _ _ h => h) (Or.inl ⟨by rfl, ?_⟩) (by assumption) ?_
      rotate_left
      · first | (intro W0 hSw; (try dsimp only at hSw); go_simp; done) | (intro W0 hSw; (try dsimp only at hSw); go_simp; with_reducible rfl)
      (try simp only [Act.put]); (try simp only [List.setIfInBounds_toArray]); (try simp only [List.set_cons_succ]); (try simp only [List.set_cons_zero])
      refine wpAnyH_take (i := 28) (oi := ({ dst := some 72, op := Op.move (Operand.tmp 10), type := 3, pos := "law.go:81", after := #[{ on := 18, ground := Ground.guard }], guard := some (18, false) } : Oper)) (v := ?_) rfl (by kernel_rfl) (by kernel_rfl) (by kernel_rfl) (fun _ _ _ h => h) (Or.inl ⟨by rfl, ?_⟩) (by assumption) ?_
      rotate_left
      · first | (intro W0 hSw; (try dsimp only at hSw); go_simp; done) | (intro W0 hSw; (try dsimp only at hSw); go_simp; with_reducible rfl)
      (try simp only [Act.put]); (try simp only [List.setIfInBounds_toArray]); (try simp only [List.set_cons_succ]); (try simp only [List.set_cons_zero])
      refine wpAnyH_take (i := 29) (oi := ({ dst := some 73, op := Op.indexAddr 23 (Operand.tmp 71) (Operand.tmp 72), type := 0, pos := "law.go:81", after := #[{ on := 27, ground := Ground.data }, { on := 28, ground := Ground.data }, { on := 18, ground := Ground.guard }], guard := some (18, false) } : Oper)) (v := ?_) rfl (by kernel_rfl) (by kernel_rfl) (by kernel_rfl) (fun _ _ _ h => h) (Or.inl ⟨by rfl, ?_⟩) (by assumption) ?_
      rotate_left
      · first | (intro W0 hSw; (try dsimp only at hSw); go_simp; done) | (intro W0 hSw; (try dsimp only at hSw); go_simp; with_reducible rfl)
      (try simp only [Act.put]); (try simp only [List.setIfInBounds_toArray]); (try simp only [List.set_cons_succ]); (try simp only [List.set_cons_zero])
      refine wpAnyH_take (i := 30) (oi := ({ dst := some 74, op := Op.fieldAddr 39 (Operand.tmp 73) 1, type := 0, pos := "law.go:81", after := #[{ on := 29, ground := Ground.data }, { on := 18, ground := Ground.guard }], guard := some (18, false) } : Oper)) (v := ?_) rfl (by kernel_rfl) (by kernel_rfl) (by kernel_rfl) (fun _ _ _ h => h) (Or.inl ⟨by rfl, ?_⟩) (by assumption) ?_
      rotate_left
      · first | (intro W0 hSw; (try dsimp only at hSw); go_simp; done) | (intro W0 hSw; (try dsimp only at hSw); go_simp; with_reducible rfl)
      (try simp only [Act.put]); (try simp only [List.setIfInBounds_toArray]); (try simp only [List.set_cons_succ]); (try simp only [List.set_cons_zero])
      refine wpAnyH_take (i := 31) (oi := ({ dst := some 75, op := Op.load 3 (Operand.tmp 74), type := 3, pos := "law.go:81", after := #[{ on := 30, ground := Ground.data }, { on := 18, ground := Ground.guard }], guard := some (18, false) } : Oper)) (v := ?_) rfl (by kernel_rfl) (by kernel_rfl) (by kernel_rfl) (fun _ _ _ h => h) (Or.inl ⟨by rfl, ?_⟩) (by assumption) ?_
      rotate_left
      · first | (intro W0 hSw; (try dsimp only at hSw); go_simp; done) | (intro W0 hSw; (try dsimp only at hSw); go_simp; with_reducible rfl)
      (try simp only [Act.put]); (try simp only [List.setIfInBounds_toArray]); (try simp only [List.set_cons_succ]); (try simp only [List.set_cons_zero])
      refine wpAnyH_ready (rs := [25]) (by kernel_rfl) (by simp) ?_
      refine AllReadyH.cons rfl (fun K hK => ?_) AllReadyH.nil
      go_simp
      (go_at_call 9; refine ((unhide HFI) _ (by with_reducible (first | exact unhide HF | exact e4_more (unhide HF) (Below.refl _ _).drew | exact e4_more (unhide HF) (Below.refl _ _).drew.drew))).mono ?_; rintro e w6 ⟨rfl, hv⟩; have HF2 := hide (e4_more (unhide HF) hv); have hS6 : (fun W' => W'.cell? ⟨ba, off + i * 14 + 1, none⟩ = some (.int .i64 oa) ∧ W'.cell? ⟨bQ, 1, none⟩ = some (.slice va ps.length vc)) w6 := ⟨cell_kept hv ca, cell_kept hv k1⟩; clear hv)
      refine hK.out _ _ ?_ (fun hHeld => ?_)
      · exact hS6
      clear hK K
      (try simp only [Act.put]); (try simp only [List.setIfInBounds_toArray]); (try simp only [List.set_cons_succ]); (try simp only [List.set_cons_zero])
      refine wpAnyH_ready (rs := [32]) (by kernel_rfl) (by simp) ?_
      refine AllReadyH.cons rfl (fun K hK => ?_) AllReadyH.nil
      go_simp
      (go_at_call 10; refine ((unhide HQF) _ (by with_reducible (first | exact unhide HF2 | exact e4_more (unhide HF2) (Below.refl _ _).drew | exact e4_more (unhide HF2) (Below.refl _ _).drew.drew))).mono ?_; rintro e w7 ⟨rfl, rfl⟩)
      refine hK.out _ _ ?_ (fun hHeld => ?_)
      · exact hS6
      clear hK K
      (try simp only [Act.put]); (try simp only [List.setIfInBounds_toArray]); (try simp only [List.set_cons_succ]); (try simp only [List.set_cons_zero])
      refine wpAnyH_take (i := 33) (oi := ({ dst := some 77, op := Op.binOp BinOp.neq 3 (Operand.tmp 69) (Operand.tmp 76) 3, type := 4, pos := "law.go:81", after := #[{ on := 25, ground := Ground.data }, { on := 32, ground := Ground.data }, { on := 18, ground := Ground.guard }], guard := some (18, false) } : Oper)) (v := ?_) rfl (by kernel_rfl) (by kernel_rfl) (by kernel_rfl) (fun _ _ _ h => h) (Or.inl ⟨by rfl, ?_⟩) (by assumption) ?_
      rotate_left
      · first | (intro W0 hSw; (try dsimp only at hSw); go_simp; done) | (intro W0 hSw; (try dsimp only at hSw); go_simp; with_reducible rfl)
      (try simp only [Act.put]); (try simp only [List.setIfInBounds_toArray]); (try simp only [List.set_cons_succ]); (try simp only [List.set_cons_zero])
      refine wpAnyH_take (i := 34) (oi := ({ dst := some 78, op := Op.pick (Operand.tmp 62) (Operand.const (Value.bool true)) (Operand.tmp 77), type := 4, pos := "law.go:81", after := #[{ on := 18, ground := Ground.data }, { on := 33, ground := Ground.data }], guard := none } : Oper)) (v := ?_) rfl (by kernel_rfl) (by kernel_rfl) (by kernel_rfl) (fun _ _ _ h => h) (Or.inl ⟨by rfl, ?_⟩) (by assumption) ?_
      rotate_left
      · first | (intro W0 hSw; (try dsimp only at hSw); go_simp; done) | (intro W0 hSw; (try dsimp only at hSw); go_simp; with_reducible rfl)
      (try simp only [Act.put]); (try simp only [List.setIfInBounds_toArray]); (try simp only [List.set_cons_succ]); (try simp only [List.set_cons_zero])
      refine wpAnyH_done (by kernel_rfl) ?_ _
      have HFW : Hid (E4 w w6 bA bR bL bQ ks ps) := HF2
      clear hHeld hS4 hS6 ca k1 HF HF2 HE HPL HFI HQF HLN HSC
      go_wp2
      go_loopg [11] (ps.length + 2) (fun g s11 wr2 => ∃ k : Nat, k + g = ps.length + 2 ∧ s11 = .int .i64 ((k : Int) - 1) ∧ E4 w wr2 bA bR bL bQ ks ps)
      case atStart => exact ⟨0, by omega, rfl, unhide HFW⟩
      case round =>
        obtain ⟨k, hkg, rfl, hf⟩ := hrel
        clear HFW
        have HN := hide hf
        obtain ⟨va2, vc2, k1⟩ := e4_len hf
        have hk0 : (0 : Int) ≤ (k : Int) := by omega
        have HKG := hide hkg
        clear hf
        by_cases hkz : (k : Int) - 1 ≤ (ps.length : Int)
        · have hkb : (k : Int) ≤ 1000000000001 := by have := unhide HPB; omega
          by_cases hiq : (i : Int) < 200
          · obtain ⟨nd, ⟨s0, s1, s2, s3, s4, s5, s6, s7, sa⟩, c, a2, c2, hfew, hA2, hLA, hQA⟩ := e4_both w bA bR bL bQ (unhide HG) k
            simp only [TokM.cells] at hfew hA2 hLA hQA
            have hent := fun W ao ac (h1 : AttrsIn W ao sa) (h2 : AttrsIn W a2 sa) => entry_any W nd ⟨s0, s1, s2, s3, s4, s5, s6, s7, sa⟩ ao a2 ac c2 h1 h2 hfew
            simp only [TokM.cells] at hent
            have HLA := hide hLA
            have HQA := hide hQA
            have HA2 := hide hA2
            have HENT := hide hent
            clear hfew hA2 hLA hQA hent hkg
            go_wp2_with (first
              | (go_at_call 11; refine ((unhide HLA) _ (by with_reducible (first | exact unhide HN | exact e4_more (unhide HN) (Below.refl _ _).drew))).mono ?_; rintro e w8 ⟨ao, ac, rfl, hat, hv⟩; have HAT := hide hat; have HN8 := hide hv; clear hat hv)
              | (go_at_call 12; refine ((unhide HQA) _ (e4_more (unhide HN8) (below_new _ _))).mono ?_; rintro e w9 ⟨rfl, hb⟩; have HB9 : Hid (Below (w8.alloc (.cells #[.int .i64 nd, .int .i64 s0, .string s1, .string s2, .string s3, .int .i64 s4, .bool s5, .int .i32 s6, .bool s7, .slice ao sa.length ac] 46)).heap.size (w8.alloc (.cells #[.int .i64 nd, .int .i64 s0, .string s1, .string s2, .string s3, .int .i64 s4, .bool s5, .int .i32 s6, .bool s7, .slice ao sa.length ac] 46)) w9) := hide hb; have HN9 := hide (e4_more (e4_more (e4_more (unhide HN8) (below_new w8 (.cells #[.int .i64 nd, .int .i64 s0, .string s1, .string s2, .string s3, .int .i64 s4, .bool s5, .int .i32 s6, .bool s7, .slice ao sa.length ac] 46))) hb) (below_new w9 (.cells #[.int .i64 nd, .int .i64 s0, .string s1, .string s2, .string s3, .int .i64 s4, .bool s5, .int .i32 s6, .bool s7, .slice a2 sa.length c2] 46))); have HT9 := hide ((((unhide HAT).below (below_new w8 (.cells #[.int .i64 nd, .int .i64 s0, .string s1, .string s2, .string s3, .int .i64 s4, .bool s5, .int .i32 s6, .bool s7, .slice ao sa.length ac] 46))).below hb).below (below_new w9 (.cells #[.int .i64 nd, .int .i64 s0, .string s1, .string s2, .string s3, .int .i64 s4, .bool s5, .int .i32 s6, .bool s7, .slice a2 sa.length c2] 46))); have HBC := hide (two_boxes w8 w9 #[.int .i64 nd, .int .i64 s0, .string s1, .string s2, .string s3, .int .i64 s4, .bool s5, .int .i32 s6, .bool s7, .slice ao sa.length ac] #[.int .i64 nd, .int .i64 s0, .string s1, .string s2, .string s3, .int .i64 s4, .bool s5, .int .i32 s6, .bool s7, .slice a2 sa.length c2] 46 hb); clear hb; obtain ⟨⟨x0, x1, x2, x3, x4, x5, x6, x7, x8, x9⟩, y0, y1, y2, y3, y4, y5, y6, y7, y8, y9⟩ := two_cells (unhide HBC))
              | (go_at_call 13; refine ((unhide HENT) _ ao ac (unhide HT9) ((unhide HA2) _ (unhide HN9))).mono ?_; rintro e w10 ⟨rfl, hb⟩; have HN10 := hide (e4_more (unhide HN9) hb); clear hb; clear x0 x1 x2 x3 x4 x5 x6 x7 x8 x9 y0 y1 y2 y3 y4 y5 y6 y7 y8 y9))
            go_roundg (gk - 1)
            case measure => have := unhide HKG; omega
            case rel => exact ⟨k + 1, by have := unhide HKG; omega, by go_num, unhide HN10⟩
          · clear hkg
            go_wp2
            go_roundg (l.length - (i + 1))
            case measure => have := unhide HIG; have := unhide HHI; omega
            case rel => exact ⟨i + 1, ps, by have := unhide HHI; omega, by go_num, unhide HN, unhide HG, unhide HPI⟩
        · clear hkg
          go_wp2
          go_roundg (l.length - (i + 1))
          case measure => have := unhide HIG; have := unhide HHI; omega
          case rel => exact ⟨i + 1, ps, by have := unhide HHI; omega, by go_num, unhide HN, unhide HG, unhide HPI⟩
    · have hiz : ¬ (i : Int) < (l.length : Int) := by omega
      have HEE := hide he
      clear he hgd hql hi hig
      go_wp2_with (first
        | (go_at_call 14; refine (lawake_any _).mono ?_; rintro e w4 ⟨rfl, hb⟩; have HB := hide ((e4_bel (unhide HEE)).trans (hb.mono (e4_bel (unhide HEE)).size)); clear hb))
      go_ret
      exact ⟨rfl, unhide HB⟩
end Go.Proofs.Ytabdgmcajndgbaa
