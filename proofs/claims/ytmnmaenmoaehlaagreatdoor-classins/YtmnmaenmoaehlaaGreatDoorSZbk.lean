/-
  The document's head.
-/
import Derived.Test.YtmnmaenmoaehlaaGreatDoorSZbj
namespace Go.Proofs.YtmnmaenmoaehlaaGreatDoor
open Go.RowKit Go.Lib

/-- A node's cells, in every later world. -/
theorem rf_node {w : World} {base bR g cap : Nat} {rs : List OneR} (h : Rf w base bR g cap rs) {i : Nat} {r : OneR} (hi : rs[i]? = some r) : ∃ aa ca ak ck, AttrsIn w aa r.o.attrs ∧ IntsIn w ak r.o.kids ∧ r.o.kids.length ≤ 32768 ∧ ((i : Int) < (rs.length : Int) ∧ (rs.length : Int) ≤ 32768) ∧ ∀ W, Below w.heap.size w W → W.cell? ⟨bR, 0, none⟩ = some (.slice (some ⟨g, 0, none⟩) rs.length cap) ∧
    W.cell? ⟨g, i * 10, none⟩ = some (.int .i64 r.o.kind) ∧ W.cell? ⟨g, i * 10 + 1, none⟩ = some (.int .i64 r.o.space) ∧ W.cell? ⟨g, i * 10 + 2, none⟩ = some (.string r.o.name) ∧ W.cell? ⟨g, i * 10 + 3, none⟩ = some (.slice aa r.o.attrs.length ca) ∧ W.cell? ⟨g, i * 10 + 4, none⟩ = some (.string r.o.data) ∧ W.cell? ⟨g, i * 10 + 5, none⟩ = some (.string r.o.system) ∧ W.cell? ⟨g, i * 10 + 6, none⟩ = some (.int .i64 r.o.inner) ∧ W.cell? ⟨g, i * 10 + 7, none⟩ = some (.int .i64 r.o.host) ∧ W.cell? ⟨g, i * 10 + 8, none⟩ = some (.int .i64 r.o.up) ∧ W.cell? ⟨g, i * 10 + 9, none⟩ = some (.slice ak r.o.kids.length ck) := by
  obtain ⟨aa, ca, hav, hain, _, _⟩ := h.attrs i r hi
  obtain ⟨ak, ck, hkv, hints, hkl⟩ := h.kids i r hi
  have hm := h.most
  have hil : i < rs.length := (List.getElem?_eq_some_iff.1 hi).1
  refine ⟨aa, ca, ak, ck, hain, hints, hkl, ⟨by omega, by omega⟩, fun W hW => ?_⟩
  have hx := h.below hW
  obtain ⟨c0, c1, c2, c3, c4, c5, c6, c7, c8, c9⟩ := hx.cells10 hi
  rw [hav] at c3
  rw [hkv] at c9
  exact ⟨hx.cR, c0, c1, c2, c3, c4, c5, c6, c7, c8, c9⟩
theorem ints_kept {w : World} {ak : Option Addr} {l : List Nat} (h : IntsIn w ak l) {j k : Nat} (hk : l[j]? = some k) : ∃ b off, ak = some ⟨b, off, none⟩ ∧ ∀ W, Below w.heap.size w W → W.cell? ⟨b, off + j, none⟩ = some (.int .i64 (k : Nat)) := by
  obtain ⟨b, off, e, _⟩ := h.cells j k hk
  refine ⟨b, off, e, fun W hW => ?_⟩
  obtain ⟨b', off', e', c⟩ := (h.below hW).cells j k hk
  rw [e] at e'
  cases e'
  exact c

theorem bareAt_of {rs : List OneR} {k : Nat} {r : OneR} (h : rs[k]? = some r) (nm : List UInt8) : bareAt (osOf rs) k nm = bareD r.o nm := by unfold bareAt; rw [osOf_get h]
theorem kidsAt_of {rs : List OneR} {k : Nat} {r : OneR} (h : rs[k]? = some r) : kidsAt (osOf rs) k = r.o.kids := by unfold kidsAt; rw [osOf_get h]
theorem textAt_of {rs : List OneR} {k : Nat} {r : OneR} (h : rs[k]? = some r) : textAt (osOf rs) k = (r.o.kind == 2 && okText r.o.data) := by unfold textAt; rw [osOf_get h]

set_option maxHeartbeats 16000000 in
set_option maxRecDepth 100000 in
theorem xhead_any {w : World} {base bR g cap : Nat} {rs : List OneR} (h : Rf w base bR g cap rs) (i : Nat) (r : OneR) (hi : rs[i]? = some r)
    (hin : ∀ (q : Nat) rq, rs[q]? = some rq → rq.o.data.size ≤ 1048576 ∧ ∀ k ∈ rq.o.kids, ∃ rk, rs[k]? = some rk) :
    Calls Tryz.prog 28 #[.pointer (some ⟨bR, 0, none⟩), .int .i64 i] w fun e w' => e = .returned (.bool (headD (osOf rs) i)) ∧ Below w.heap.size w w' := by
  obtain ⟨aa, ca, ak, ck, _, hints, hkl, ⟨hiz, hmz⟩, hc⟩ := rf_node h hi
  have HIN := hide hin
  have HRF := hide h
  have HC := hide hc
  have HI := hide hints
  have HBX := hide (Below.refl w.heap.size w)
  have HB := hide (fun W (hW : Below w.heap.size w W) => xbare_any (h.below hW) i r hi ⟨#[104, 101, 97, 100]⟩)
  obtain ⟨res, hres⟩ : ∃ x, headD (osOf rs) i = x := ⟨_, rfl⟩
  rw [hres]
  unfold headD at hres
  rw [bareAt_of hi, kidsAt_of hi] at hres
  have hil := hi
  clear h hin hc hints hi
  go_enter Tryz.func28, Tryz.ntmps28
  go_wp2_with (go_at_call 27; fail)
  refine ((unhide HB) _ (unhide HBX)).mono ?_
  rintro e w1 ⟨rfl, hb⟩
  have HB1 := hide hb
  clear HB hb
  have e1 : bareD r.o [104, 101, 97, 100] = bareD r.o (⟨#[104, 101, 97, 100]⟩ : ByteArray).toList := by rw [toList_data]
  rw [e1] at hres
  clear e1
  cases h1 : bareD r.o (⟨#[104, 101, 97, 100]⟩ : ByteArray).toList with
  | false =>
    rw [h1] at hres
    have HR : Hid (false = res) := hide hres
    clear hres hil
    go_wp2
    go_ret
    exact ⟨by rw [← unhide HR]; rfl, unhide HB1⟩
  | true =>
    rw [h1] at hres
    have hres : headK (osOf rs) r.o.kids = res := hres
    obtain ⟨a0, n0, n1, n2, n3, n4, n5, n6, n7, n8, n9⟩ := (unhide HC) w1 (unhide HB1)
    clear n0 n1 n2 n3 n4 n5 n6 n7 n8
    match hk : r.o.kids with
    | [] =>
      rw [hk] at hres n9
      have n9 : w1.cell? ⟨g, i * 10 + 9, none⟩ = some (.slice ak 0 ck) := n9
      have HR : Hid (true = res) := hide hres
      clear hres hil hk
      go_wp2
      go_ret
      exact ⟨by rw [← unhide HR]; rfl, unhide HB1⟩
    | x :: y :: t =>
      rw [hk] at hres
      have HR : Hid (false = res) := hide hres
      have hlz : (1 : Int) < (r.o.kids.length : Int) := by rw [hk]; simp only [List.length_cons]; omega
      clear hres hil hk
      go_wp2
      go_ret
      exact ⟨by rw [← unhide HR]; rfl, unhide HB1⟩
    | [t] =>
      rw [hk] at hres n9
      have n9 : w1.cell? ⟨g, i * 10 + 9, none⟩ = some (.slice ak 1 ck) := n9
      have hints := unhide HI
      rw [hk] at hints
      obtain ⟨b, off, rfl, hkc⟩ := ints_kept hints (j := 0) (k := t) rfl
      have m1 := hkc w1 (unhide HB1)
      have m1 : w1.cell? ⟨b, off, none⟩ = some (.int .i64 (t : Nat)) := m1
      obtain ⟨rt, hrt⟩ := ((unhide HIN) i r hil).2 t (by rw [hk]; exact List.mem_cons_self)
      have hres : (bareAt (osOf rs) t [116, 105, 116, 108, 101] && titleD (osOf rs) (kidsAt (osOf rs) t)) = res := hres
      rw [bareAt_of hrt, kidsAt_of hrt] at hres
      obtain ⟨ta, tc, tk, tck, _, htints, htl, ⟨htz, _⟩, htc⟩ := rf_node (unhide HRF) hrt
      have HTC := hide htc
      have HTI := hide htints
      have HB := hide (xbare_any ((unhide HRF).below (unhide HB1)) t rt hrt ⟨#[116, 105, 116, 108, 101]⟩)
      have e1 : bareD rt.o [116, 105, 116, 108, 101] = bareD rt.o (⟨#[116, 105, 116, 108, 101]⟩ : ByteArray).toList := by rw [toList_data]
      rw [e1] at hres
      have HRT := hide hrt
      have HRES := hide hres
      clear e1 hil hk hints htints htc hkc hrt hres
      go_wp2_with (go_at_call 27; fail)
      refine (unhide HB).mono ?_
      rintro e w2 ⟨rfl, hb⟩
      have HB2 := hide ((unhide HB1).trans (hb.mono (unhide HB1).size))
      clear HB hb a0 n9 m1
      have hres := unhide HRES
      cases h2 : bareD rt.o (⟨#[116, 105, 116, 108, 101]⟩ : ByteArray).toList with
      | false =>
        rw [h2] at hres
        have HR : Hid (false = res) := hide hres
        clear hres
        go_wp2
        go_ret
        exact ⟨by rw [← unhide HR]; rfl, unhide HB2⟩
      | true =>
        rw [h2] at hres
        have hres : titleD (osOf rs) rt.o.kids = res := hres
        obtain ⟨a0, n0, n1, n2, n3, n4, n5, n6, n7, n8, n9⟩ := (unhide HTC) w2 (unhide HB2)
        clear n0 n1 n2 n3 n4 n5 n6 n7 n8
        match hk : rt.o.kids with
        | [] =>
          rw [hk] at hres n9
          have n9 : w2.cell? ⟨g, t * 10 + 9, none⟩ = some (.slice tk 0 tck) := n9
          have HR : Hid (true = res) := hide hres
          clear hres hk
          go_wp2
          go_ret
          exact ⟨by rw [← unhide HR]; rfl, unhide HB2⟩
        | x :: y :: z =>
          rw [hk] at hres
          have HR : Hid (false = res) := hide hres
          have hlz : (1 : Int) < (rt.o.kids.length : Int) := by rw [hk]; simp only [List.length_cons]; omega
          clear hres hk
          go_wp2
          go_ret
          exact ⟨by rw [← unhide HR]; rfl, unhide HB2⟩
        | [x] =>
          rw [hk] at hres n9
          have n9 : w2.cell? ⟨g, t * 10 + 9, none⟩ = some (.slice tk 1 tck) := n9
          have hints := unhide HTI
          rw [hk] at hints
          obtain ⟨tb, toff, rfl, hkc⟩ := ints_kept hints (j := 0) (k := x) rfl
          obtain ⟨rx, hrx⟩ := ((unhide HIN) t rt (unhide HRT)).2 x (by rw [hk]; exact List.mem_cons_self)
          have hres : textAt (osOf rs) x = res := hres
          rw [textAt_of hrx] at hres
          obtain ⟨xa, xc, xk, xck, _, _, _, ⟨hxz, _⟩, hxc⟩ := rf_node (unhide HRF) hrx
          have hds := ((unhide HIN) x rx hrx).1
          have HXP := hide (fun W => xplain_any rx.o.data W (by omega))
          have HSS : Hid (∀ W, Below w.heap.size w W → W.cell? ⟨bR, 0, none⟩ = some (.slice (some ⟨g, 0, none⟩) rs.length cap) ∧ W.cell? ⟨g, t * 10 + 9, none⟩ = some (.slice (some ⟨tb, toff, none⟩) 1 tck) ∧ W.cell? ⟨tb, toff, none⟩ = some (.int .i64 (x : Nat)) ∧ W.cell? ⟨g, x * 10, none⟩ = some (.int .i64 rx.o.kind) ∧ W.cell? ⟨g, x * 10 + 1, none⟩ = some (.int .i64 rx.o.space) ∧ W.cell? ⟨g, x * 10 + 2, none⟩ = some (.string rx.o.name) ∧ W.cell? ⟨g, x * 10 + 3, none⟩ = some (.slice xa rx.o.attrs.length xc) ∧ W.cell? ⟨g, x * 10 + 4, none⟩ = some (.string rx.o.data) ∧ W.cell? ⟨g, x * 10 + 5, none⟩ = some (.string rx.o.system) ∧ W.cell? ⟨g, x * 10 + 6, none⟩ = some (.int .i64 rx.o.inner) ∧ W.cell? ⟨g, x * 10 + 7, none⟩ = some (.int .i64 rx.o.host) ∧ W.cell? ⟨g, x * 10 + 8, none⟩ = some (.int .i64 rx.o.up) ∧ W.cell? ⟨g, x * 10 + 9, none⟩ = some (.slice xk rx.o.kids.length xck)) := hide (fun W hW => by
            obtain ⟨a0, q0, q1, q2, q3, q4, q5, q6, q7, q8, q9⟩ := hxc W hW
            obtain ⟨_, _, _, _, _, _, _, _, _, _, p9⟩ := (unhide HTC) W hW
            rw [hk] at p9
            exact ⟨a0, p9, hkc W hW, q0, q1, q2, q3, q4, q5, q6, q7, q8, q9⟩)
          have HRES := hide hres
          clear hres hk hints hkc hrx hxc hds
          go_wp2
          have HBD := hide (below_drx (unhide HB2))
          refine wp_region_held (S := fun W => W.cell? ⟨bR, 0, none⟩ = some (.slice (some ⟨g, 0, none⟩) rs.length cap) ∧ W.cell? ⟨g, t * 10 + 9, none⟩ = some (.slice (some ⟨tb, toff, none⟩) 1 tck) ∧ W.cell? ⟨tb, toff, none⟩ = some (.int .i64 (x : Nat)) ∧ W.cell? ⟨g, x * 10, none⟩ = some (.int .i64 rx.o.kind) ∧ W.cell? ⟨g, x * 10 + 1, none⟩ = some (.int .i64 rx.o.space) ∧ W.cell? ⟨g, x * 10 + 2, none⟩ = some (.string rx.o.name) ∧ W.cell? ⟨g, x * 10 + 3, none⟩ = some (.slice xa rx.o.attrs.length xc) ∧ W.cell? ⟨g, x * 10 + 4, none⟩ = some (.string rx.o.data) ∧ W.cell? ⟨g, x * 10 + 5, none⟩ = some (.string rx.o.system) ∧ W.cell? ⟨g, x * 10 + 6, none⟩ = some (.int .i64 rx.o.inner) ∧ W.cell? ⟨g, x * 10 + 7, none⟩ = some (.int .i64 rx.o.host) ∧ W.cell? ⟨g, x * 10 + 8, none⟩ = some (.int .i64 rx.o.up) ∧ W.cell? ⟨g, x * 10 + 9, none⟩ = some (.slice xk rx.o.kids.length xck)) (by kernel_rfl) ?_
          try (change wpAnyH _ _ _ _ _ _ _ _ (World.drew _))
          have hHeld : w2.drew.cell? ⟨bR, 0, none⟩ = some (.slice (some ⟨g, 0, none⟩) rs.length cap) ∧ w2.drew.cell? ⟨g, t * 10 + 9, none⟩ = some (.slice (some ⟨tb, toff, none⟩) 1 tck) ∧ w2.drew.cell? ⟨tb, toff, none⟩ = some (.int .i64 (x : Nat)) ∧ w2.drew.cell? ⟨g, x * 10, none⟩ = some (.int .i64 rx.o.kind) ∧ w2.drew.cell? ⟨g, x * 10 + 1, none⟩ = some (.int .i64 rx.o.space) ∧ w2.drew.cell? ⟨g, x * 10 + 2, none⟩ = some (.string rx.o.name) ∧ w2.drew.cell? ⟨g, x * 10 + 3, none⟩ = some (.slice xa rx.o.attrs.length xc) ∧ w2.drew.cell? ⟨g, x * 10 + 4, none⟩ = some (.string rx.o.data) ∧ w2.drew.cell? ⟨g, x * 10 + 5, none⟩ = some (.string rx.o.system) ∧ w2.drew.cell? ⟨g, x * 10 + 6, none⟩ = some (.int .i64 rx.o.inner) ∧ w2.drew.cell? ⟨g, x * 10 + 7, none⟩ = some (.int .i64 rx.o.host) ∧ w2.drew.cell? ⟨g, x * 10 + 8, none⟩ = some (.int .i64 rx.o.up) ∧ w2.drew.cell? ⟨g, x * 10 + 9, none⟩ = some (.slice xk rx.o.kids.length xck) := (unhide HSS) _ (unhide HBD)
          refine wpAnyH_take (i := 0) (oi := ({ dst := some 69, op := Op.move (Operand.tmp 0), type := 25, pos := _, after := #[], guard := none } : Oper)) (v := ?_) rfl (by kernel_rfl) (by kernel_rfl) (by kernel_rfl) (fun _ _ _ h => h) (Or.inl ⟨by rfl, ?_⟩) (by assumption) ?_
          rotate_left
          · first | (intro W0 hSw; (try dsimp only at hSw); go_simp; done) | (intro W0 hSw; (try dsimp only at hSw); go_simp; with_reducible rfl)
          (try simp only [Act.put]); (try simp only [List.setIfInBounds_toArray]); (try simp only [List.set_cons_succ]); (try simp only [List.set_cons_zero])
          refine wpAnyH_take (i := 1) (oi := ({ dst := some 70, op := Op.nilCheck (Operand.tmp 69), type := 0, pos := _, after := #[{ on := 0, ground := Ground.data }], guard := none } : Oper)) (v := ?_) rfl (by kernel_rfl) (by kernel_rfl) (by kernel_rfl) (fun _ _ _ h => h) (Or.inl ⟨by rfl, ?_⟩) (by assumption) ?_
          rotate_left
          · first | (intro W0 hSw; (try dsimp only at hSw); go_simp; done) | (intro W0 hSw; (try dsimp only at hSw); go_simp; with_reducible rfl)
          (try simp only [Act.put]); (try simp only [List.setIfInBounds_toArray]); (try simp only [List.set_cons_succ]); (try simp only [List.set_cons_zero])
          refine wpAnyH_take (i := 2) (oi := ({ dst := some 71, op := Op.fieldAddr 61 (Operand.tmp 70) 0, type := 0, pos := _, after := #[{ on := 1, ground := Ground.data }], guard := none } : Oper)) (v := ?_) rfl (by kernel_rfl) (by kernel_rfl) (by kernel_rfl) (fun _ _ _ h => h) (Or.inl ⟨by rfl, ?_⟩) (by assumption) ?_
          rotate_left
          · first | (intro W0 hSw; (try dsimp only at hSw); go_simp; done) | (intro W0 hSw; (try dsimp only at hSw); go_simp; with_reducible rfl)
          (try simp only [Act.put]); (try simp only [List.setIfInBounds_toArray]); (try simp only [List.set_cons_succ]); (try simp only [List.set_cons_zero])
          refine wpAnyH_take (i := 3) (oi := ({ dst := some 72, op := Op.load 59 (Operand.tmp 71), type := 59, pos := _, after := #[{ on := 2, ground := Ground.data }], guard := none } : Oper)) (v := ?_) rfl (by kernel_rfl) (by kernel_rfl) (by kernel_rfl) (fun _ _ _ h => h) (Or.inl ⟨by rfl, ?_⟩) (by assumption) ?_
          rotate_left
          · first | (intro W0 hSw; (try dsimp only at hSw); go_simp; done) | (intro W0 hSw; (try dsimp only at hSw); go_simp; with_reducible rfl)
          (try simp only [Act.put]); (try simp only [List.setIfInBounds_toArray]); (try simp only [List.set_cons_succ]); (try simp only [List.set_cons_zero])
          refine wpAnyH_take (i := 4) (oi := ({ dst := some 73, op := Op.move (Operand.tmp 0), type := 25, pos := _, after := #[], guard := none } : Oper)) (v := ?_) rfl (by kernel_rfl) (by kernel_rfl) (by kernel_rfl) (fun _ _ _ h => h) (Or.inl ⟨by rfl, ?_⟩) (by assumption) ?_
          rotate_left
          · first | (intro W0 hSw; (try dsimp only at hSw); go_simp; done) | (intro W0 hSw; (try dsimp only at hSw); go_simp; with_reducible rfl)
          (try simp only [Act.put]); (try simp only [List.setIfInBounds_toArray]); (try simp only [List.set_cons_succ]); (try simp only [List.set_cons_zero])
          refine wpAnyH_take (i := 5) (oi := ({ dst := some 74, op := Op.nilCheck (Operand.tmp 73), type := 0, pos := _, after := #[{ on := 4, ground := Ground.data }], guard := none } : Oper)) (v := ?_) rfl (by kernel_rfl) (by kernel_rfl) (by kernel_rfl) (fun _ _ _ h => h) (Or.inl ⟨by rfl, ?_⟩) (by assumption) ?_
          rotate_left
          · first | (intro W0 hSw; (try dsimp only at hSw); go_simp; done) | (intro W0 hSw; (try dsimp only at hSw); go_simp; with_reducible rfl)
          (try simp only [Act.put]); (try simp only [List.setIfInBounds_toArray]); (try simp only [List.set_cons_succ]); (try simp only [List.set_cons_zero])
          refine wpAnyH_take (i := 6) (oi := ({ dst := some 75, op := Op.fieldAddr 61 (Operand.tmp 74) 0, type := 0, pos := _, after := #[{ on := 5, ground := Ground.data }], guard := none } : Oper)) (v := ?_) rfl (by kernel_rfl) (by kernel_rfl) (by kernel_rfl) (fun _ _ _ h => h) (Or.inl ⟨by rfl, ?_⟩) (by assumption) ?_
          rotate_left
          · first | (intro W0 hSw; (try dsimp only at hSw); go_simp; done) | (intro W0 hSw; (try dsimp only at hSw); go_simp; with_reducible rfl)
          (try simp only [Act.put]); (try simp only [List.setIfInBounds_toArray]); (try simp only [List.set_cons_succ]); (try simp only [List.set_cons_zero])
          refine wpAnyH_take (i := 7) (oi := ({ dst := some 76, op := Op.load 59 (Operand.tmp 75), type := 59, pos := _, after := #[{ on := 6, ground := Ground.data }], guard := none } : Oper)) (v := ?_) rfl (by kernel_rfl) (by kernel_rfl) (by kernel_rfl) (fun _ _ _ h => h) (Or.inl ⟨by rfl, ?_⟩) (by assumption) ?_
          rotate_left
          · first | (intro W0 hSw; (try dsimp only at hSw); go_simp; done) | (intro W0 hSw; (try dsimp only at hSw); go_simp; with_reducible rfl)
          (try simp only [Act.put]); (try simp only [List.setIfInBounds_toArray]); (try simp only [List.set_cons_succ]); (try simp only [List.set_cons_zero])
          refine wpAnyH_take (i := 8) (oi := ({ dst := some 77, op := Op.move (Operand.tmp 5), type := 3, pos := _, after := #[], guard := none } : Oper)) (v := ?_) rfl (by kernel_rfl) (by kernel_rfl) (by kernel_rfl) (fun _ _ _ h => h) (Or.inl ⟨by rfl, ?_⟩) (by assumption) ?_
          rotate_left
          · first | (intro W0 hSw; (try dsimp only at hSw); go_simp; done) | (intro W0 hSw; (try dsimp only at hSw); go_simp; with_reducible rfl)
          (try simp only [Act.put]); (try simp only [List.setIfInBounds_toArray]); (try simp only [List.set_cons_succ]); (try simp only [List.set_cons_zero])
          refine wpAnyH_take (i := 9) (oi := ({ dst := some 78, op := Op.indexAddr 59 (Operand.tmp 76) (Operand.tmp 77), type := 0, pos := _, after := #[{ on := 7, ground := Ground.data }, { on := 8, ground := Ground.data }], guard := none } : Oper)) (v := ?_) rfl (by kernel_rfl) (by kernel_rfl) (by kernel_rfl) (fun _ _ _ h => h) (Or.inl ⟨by rfl, ?_⟩) (by assumption) ?_
          rotate_left
          · first | (intro W0 hSw; (try dsimp only at hSw); go_simp; done) | (intro W0 hSw; (try dsimp only at hSw); go_simp; with_reducible rfl)
          (try simp only [Act.put]); (try simp only [List.setIfInBounds_toArray]); (try simp only [List.set_cons_succ]); (try simp only [List.set_cons_zero])
          refine wpAnyH_take (i := 10) (oi := ({ dst := some 79, op := Op.fieldAddr 58 (Operand.tmp 78) 9, type := 0, pos := _, after := #[{ on := 9, ground := Ground.data }], guard := none } : Oper)) (v := ?_) rfl (by kernel_rfl) (by kernel_rfl) (by kernel_rfl) (fun _ _ _ h => h) (Or.inl ⟨by rfl, ?_⟩) (by assumption) ?_
          rotate_left
          · first | (intro W0 hSw; (try dsimp only at hSw); go_simp; done) | (intro W0 hSw; (try dsimp only at hSw); go_simp; with_reducible rfl)
          (try simp only [Act.put]); (try simp only [List.setIfInBounds_toArray]); (try simp only [List.set_cons_succ]); (try simp only [List.set_cons_zero])
          refine wpAnyH_take (i := 11) (oi := ({ dst := some 80, op := Op.load 56 (Operand.tmp 79), type := 56, pos := _, after := #[{ on := 10, ground := Ground.data }], guard := none } : Oper)) (v := ?_) rfl (by kernel_rfl) (by kernel_rfl) (by kernel_rfl) (fun _ _ _ h => h) (Or.inl ⟨by rfl, ?_⟩) (by assumption) ?_
          rotate_left
          · first | (intro W0 hSw; (try dsimp only at hSw); go_simp; done) | (intro W0 hSw; (try dsimp only at hSw); go_simp; with_reducible rfl)
          (try simp only [Act.put]); (try simp only [List.setIfInBounds_toArray]); (try simp only [List.set_cons_succ]); (try simp only [List.set_cons_zero])
          refine wpAnyH_take (i := 12) (oi := ({ dst := some 81, op := Op.indexAddr 56 (Operand.tmp 80) (Operand.const (Value.int IntKind.i64 0)), type := 0, pos := _, after := #[{ on := 11, ground := Ground.data }], guard := none } : Oper)) (v := ?_) rfl (by kernel_rfl) (by kernel_rfl) (by kernel_rfl) (fun _ _ _ h => h) (Or.inl ⟨by rfl, ?_⟩) (by assumption) ?_
          rotate_left
          · first | (intro W0 hSw; (try dsimp only at hSw); go_simp; done) | (intro W0 hSw; (try dsimp only at hSw); go_simp; with_reducible rfl)
          (try simp only [Act.put]); (try simp only [List.setIfInBounds_toArray]); (try simp only [List.set_cons_succ]); (try simp only [List.set_cons_zero])
          refine wpAnyH_take (i := 13) (oi := ({ dst := some 82, op := Op.load 3 (Operand.tmp 81), type := 3, pos := _, after := #[{ on := 12, ground := Ground.data }], guard := none } : Oper)) (v := ?_) rfl (by kernel_rfl) (by kernel_rfl) (by kernel_rfl) (fun _ _ _ h => h) (Or.inl ⟨by rfl, ?_⟩) (by assumption) ?_
          rotate_left
          · first | (intro W0 hSw; (try dsimp only at hSw); go_simp; done) | (intro W0 hSw; (try dsimp only at hSw); go_simp; with_reducible rfl)
          (try simp only [Act.put]); (try simp only [List.setIfInBounds_toArray]); (try simp only [List.set_cons_succ]); (try simp only [List.set_cons_zero])
          refine wpAnyH_take (i := 14) (oi := ({ dst := some 83, op := Op.indexAddr 59 (Operand.tmp 72) (Operand.tmp 82), type := 0, pos := _, after := #[{ on := 3, ground := Ground.data }, { on := 13, ground := Ground.data }], guard := none } : Oper)) (v := ?_) rfl (by kernel_rfl) (by kernel_rfl) (by kernel_rfl) (fun _ _ _ h => h) (Or.inl ⟨by rfl, ?_⟩) (by assumption) ?_
          rotate_left
          · first | (intro W0 hSw; (try dsimp only at hSw); go_simp; done) | (intro W0 hSw; (try dsimp only at hSw); go_simp; with_reducible rfl)
          (try simp only [Act.put]); (try simp only [List.setIfInBounds_toArray]); (try simp only [List.set_cons_succ]); (try simp only [List.set_cons_zero])
          refine wpAnyH_take (i := 15) (oi := ({ dst := some 84, op := Op.load 58 (Operand.tmp 83), type := 58, pos := _, after := #[{ on := 14, ground := Ground.data }], guard := none } : Oper)) (v := ?_) rfl (by kernel_rfl) (by kernel_rfl) (by kernel_rfl) (fun _ _ _ h => h) (Or.inl ⟨by rfl, ?_⟩) (by assumption) ?_
          rotate_left
          · first | (intro W0 hSw; (try dsimp only at hSw); go_simp; done) | (intro W0 hSw; (try dsimp only at hSw); go_simp; with_reducible rfl)
          (try simp only [Act.put]); (try simp only [List.setIfInBounds_toArray]); (try simp only [List.set_cons_succ]); (try simp only [List.set_cons_zero])
          refine wpAnyH_ready (rs := [16]) (by kernel_rfl) (by simp) ?_
          refine AllReadyH.cons (o := ({ dst := some 6, op := Op.alloc 58, type := 0, pos := _, after := #[], guard := none } : Oper)) rfl (fun K hK => ?_) AllReadyH.nil
          go_simp
          refine hK.out _ _ ?_ (fun hHeld => ?_)
          · exact (unhide HSS) _ ((unhide HBD).alloc (unhide HBD).size _)
          clear hK K
          (try simp only [Act.put]); (try simp only [List.setIfInBounds_toArray]); (try simp only [List.set_cons_succ]); (try simp only [List.set_cons_zero])
          refine wpAnyH_ready (rs := [17]) (by kernel_rfl) (by simp) ?_
          refine AllReadyH.cons (o := ({ dst := none, op := Op.store 58 (Operand.tmp 6) (Operand.tmp 84), type := 0, pos := _, after := #[{ on := 16, ground := Ground.data }, { on := 15, ground := Ground.data }, { on := 0, ground := Ground.phase }, { on := 1, ground := Ground.phase }, { on := 2, ground := Ground.phase }, { on := 3, ground := Ground.phase }, { on := 4, ground := Ground.phase }, { on := 5, ground := Ground.phase }, { on := 6, ground := Ground.phase }, { on := 7, ground := Ground.phase }, { on := 8, ground := Ground.phase }, { on := 9, ground := Ground.phase }, { on := 10, ground := Ground.phase }, { on := 11, ground := Ground.phase }, { on := 12, ground := Ground.phase }, { on := 13, ground := Ground.phase }, { on := 14, ground := Ground.phase }, { on := 15, ground := Ground.phase }, { on := 16, ground := Ground.phase }], guard := none } : Oper)) rfl (fun K hK => ?_) AllReadyH.nil
          go_simp
          refine hK.out _ _ ?_ (fun hHeld => ?_)
          · exact (unhide HSS) _ ((unhide HBD).alloc (unhide HBD).size (.cells #[.int .i64 rx.o.kind, .int .i64 rx.o.space, .string rx.o.name, .slice xa rx.o.attrs.length xc, .string rx.o.data, .string rx.o.system, .int .i64 rx.o.inner, .int .i64 rx.o.host, .int .i64 rx.o.up, .slice xk rx.o.kids.length xck] 58))
          clear hK K
          (try simp only [Act.put]); (try simp only [List.setIfInBounds_toArray]); (try simp only [List.set_cons_succ]); (try simp only [List.set_cons_zero])
          refine wpAnyH_done (by kernel_rfl) ?_ _
          clear hHeld
          have HBA := hide ((unhide HBD).alloc (unhide HBD).size (.cells #[.int .i64 rx.o.kind, .int .i64 rx.o.space, .string rx.o.name, .slice xa rx.o.attrs.length xc, .string rx.o.data, .string rx.o.system, .int .i64 rx.o.inner, .int .i64 rx.o.host, .int .i64 rx.o.up, .slice xk rx.o.kids.length xck] 58))
          cases h3 : (rx.o.kind == 2) with
          | false =>
            have HR : Hid (false = res) := hide (by rw [← unhide HRES, h3]; rfl)
            go_wp2
            go_ret
            exact ⟨by rw [← unhide HR]; rfl, unhide HBA⟩
          | true =>
            cases h4 : rx.o.data.toList.isEmpty
            · have HR : Hid (plainU rx.o.data.data.toList = res) := hide (by rw [← unhide HRES, h3]; unfold okText; rw [h4]; rfl)
              go_wp2_with (go_at_call 61; refine ((unhide HXP) _).mono ?_; rintro e w4 ⟨rfl, hb⟩; have HB4 := hide ((unhide HBA).trans (hb.mono (unhide HBA).size)); clear hb)
              go_ret
              exact ⟨by rw [← unhide HR]; rfl, unhide HB4⟩
            · have HR : Hid (false = res) := hide (by rw [← unhide HRES, h3]; unfold okText; rw [h4]; rfl)
              go_wp2
              go_ret
              exact ⟨by rw [← unhide HR]; rfl, unhide HBA⟩
end Go.Proofs.YtmnmaenmoaehlaaGreatDoor
