/-
  The document's In.
-/
import Derived.Test.YtmnmaenmoaehlaaGreatDoorSZbk
namespace Go.Proofs.YtmnmaenmoaehlaaGreatDoor
open Go.RowKit Go.Lib

theorem bodyD_of {rs : List OneR} {n k : Nat} {r : OneR} (h : rs[k]? = some r) : bodyD (osOf rs) n k = (bodyO r.o && kidsD (osOf rs) (fun x => oneD (osOf rs) n x true 3) (-1) r.o.kids) := by unfold bodyD; rw [osOf_get h]

set_option maxHeartbeats 16000000 in
set_option maxRecDepth 100000 in
theorem xin_any {w : World} {base bR g cap : Nat} {rs : List OneR} (h : Rf w base bR g cap rs) (n : Nat) (r : OneR) (hi : rs[0]? = some r)
    (hin : ∀ (q : Nat) rq, rs[q]? = some rq → ShortO rq.o ∧ rq.o.attrs.length ≤ 1024 ∧ ∀ k ∈ rq.o.kids, ∃ rk, rs[k]? = some rk)
    (hkids : ∀ (a h b : Nat) (rh : OneR), r.o.kids = [h] → rs[h]? = some rh → rh.o.kids = [a, b] → ∀ rb, rs[b]? = some rb → ∀ W, Below w.heap.size w W → Calls Tryz.prog 30 #[.pointer (some ⟨bR, 0, none⟩), .int .i64 (b : Nat), .bool true, .int .i64 3] W fun e w' => e = .returned (.bool (kidsD (osOf rs) (fun x => oneD (osOf rs) n x true 3) (-1) rb.o.kids)) ∧ Below W.heap.size W w') :
    Calls Tryz.prog 8 #[.pointer (some ⟨bR, 0, none⟩)] w fun e w' => e = .returned (.bool (rootD (osOf rs) n (kidsAt (osOf rs) 0))) ∧ Below w.heap.size w w' := by
  obtain ⟨aa, ca, ak, ck, _, hints, hkl, ⟨hiz, hmz⟩, hc⟩ := rf_node h hi
  obtain ⟨res, hres⟩ : ∃ x, rootD (osOf rs) n (kidsAt (osOf rs) 0) = x := ⟨_, rfl⟩
  rw [hres]
  rw [kidsAt_of hi] at hres
  have hin2 : ∀ (q : Nat) rq, rs[q]? = some rq → rq.o.data.size ≤ 1048576 ∧ ∀ k ∈ rq.o.kids, ∃ rk, rs[k]? = some rk := fun q rq hq => ⟨(hin q rq hq).1.data, (hin q rq hq).2.2⟩
  have HIN := hide hin
  have HIN2 := hide hin2
  have HRF := hide h
  have HC := hide hc
  have HI := hide hints
  have HKS := hide hkids
  have HBX := hide (Below.refl w.heap.size w)
  obtain ⟨a0, n0, n1, n2, n3, n4, n5, n6, n7, n8, n9⟩ := hc w (Below.refl _ _)
  rw [Nat.zero_mul, Nat.zero_add] at n9
  have hil := hi
  have hrz : (0 : Int) < (rs.length : Int) := hiz
  have hrn : 0 < rs.length := by omega
  clear h hin hin2 hkids hc hints hi n0 n1 n2 n3 n4 n5 n6 n7 n8
  match hk : r.o.kids with
  | [] =>
    rw [hk] at hres n9
    have n9 : w.cell? ⟨g, 9, none⟩ = some (.slice ak 0 ck) := n9
    have HR : Hid (false = res) := hide hres
    clear hres hil hk
    go_enter Tryz.func8, Tryz.ntmps8
    go_wp2
    go_ret
    exact ⟨by rw [← unhide HR]; rfl, unhide HBX⟩
  | x :: y :: t =>
    rw [hk] at hres
    have HR : Hid (false = res) := hide hres
    have hlz : ((r.o.kids.length : Int) != 1) = true := by rw [hk]; simp only [List.length_cons]; rw [bne_iff_ne]; omega
    clear hres hil hk
    go_enter Tryz.func8, Tryz.ntmps8
    go_wp2
    go_ret
    exact ⟨by rw [← unhide HR]; rfl, unhide HBX⟩
  | [t] =>
    rw [hk] at hres n9
    have n9 : w.cell? ⟨g, 9, none⟩ = some (.slice ak 1 ck) := n9
    have hints := unhide HI
    rw [hk] at hints
    obtain ⟨b, off, rfl, hkc⟩ := ints_kept hints (j := 0) (k := t) rfl
    have m1 := hkc w (unhide HBX)
    have m1 : w.cell? ⟨b, off, none⟩ = some (.int .i64 (t : Nat)) := m1
    obtain ⟨rt, hrt⟩ := ((unhide HIN) 0 r hil).2.2 t (by rw [hk]; exact List.mem_cons_self)
    have hres : (bareAt (osOf rs) t [104, 116, 109, 108] && pairD (osOf rs) n (kidsAt (osOf rs) t)) = res := hres
    rw [bareAt_of hrt, kidsAt_of hrt] at hres
    obtain ⟨ta, tc, tk, tck, _, htints, htl, ⟨htz, _⟩, htc⟩ := rf_node (unhide HRF) hrt
    have HTC := hide htc
    have HTI := hide htints
    have HB := hide (xbare_any (unhide HRF) t rt hrt ⟨#[104, 116, 109, 108]⟩)
    have e1 : bareD rt.o [104, 116, 109, 108] = bareD rt.o (⟨#[104, 116, 109, 108]⟩ : ByteArray).toList := by rw [toList_data]
    rw [e1] at hres
    have HRT := hide hrt
    have HRES := hide hres
    have HK0 := hide hk
    have HKC := hide hkc
    clear e1 hil hk hints htints htc hkc hrt hres
    go_enter Tryz.func8, Tryz.ntmps8
    go_wp2_with (go_at_call 27; fail)
    refine (unhide HB).mono ?_
    rintro e w2 ⟨rfl, hb⟩
    have HB2 := hide hb
    clear HB hb a0 n9 m1
    have hres := unhide HRES
    cases h2 : bareD rt.o (⟨#[104, 116, 109, 108]⟩ : ByteArray).toList with
    | false =>
      rw [h2] at hres
      have HR : Hid (false = res) := hide hres
      clear hres
      go_wp2
      go_ret
      exact ⟨by rw [← unhide HR]; rfl, unhide HB2⟩
    | true =>
      rw [h2] at hres
      have hres : pairD (osOf rs) n rt.o.kids = res := hres
      have HRES := hide hres
      clear hres
      have HSS : Hid (∀ W, Below w.heap.size w W → W.cell? ⟨bR, 0, none⟩ = some (.slice (some ⟨g, 0, none⟩) rs.length cap) ∧ W.cell? ⟨g, 9, none⟩ = some (.slice (some ⟨b, off, none⟩) 1 ck) ∧ W.cell? ⟨b, off, none⟩ = some (.int .i64 (t : Nat)) ∧ W.cell? ⟨g, t * 10 + 9, none⟩ = some (.slice tk rt.o.kids.length tck)) := hide (fun W hW => by
        obtain ⟨a0, _, _, _, _, _, _, _, _, _, p9⟩ := (unhide HC) W hW
        obtain ⟨_, _, _, _, _, _, _, _, _, _, q9⟩ := (unhide HTC) W hW
        rw [unhide HK0] at p9
        rw [Nat.zero_mul, Nat.zero_add] at p9
        exact ⟨a0, p9, (unhide HKC) W hW, q9⟩)
      go_wp2
      have HBD := hide (below_drx (unhide HB2))
      refine wp_region_held (S := fun W => W.cell? ⟨bR, 0, none⟩ = some (.slice (some ⟨g, 0, none⟩) rs.length cap) ∧ W.cell? ⟨g, 9, none⟩ = some (.slice (some ⟨b, off, none⟩) 1 ck) ∧ W.cell? ⟨b, off, none⟩ = some (.int .i64 (t : Nat)) ∧ W.cell? ⟨g, t * 10 + 9, none⟩ = some (.slice tk rt.o.kids.length tck)) (by kernel_rfl) ?_
      try (change wpAnyH _ _ _ _ _ _ _ _ (World.drew _))
      have hHeld : w2.drew.cell? ⟨bR, 0, none⟩ = some (.slice (some ⟨g, 0, none⟩) rs.length cap) ∧ w2.drew.cell? ⟨g, 9, none⟩ = some (.slice (some ⟨b, off, none⟩) 1 ck) ∧ w2.drew.cell? ⟨b, off, none⟩ = some (.int .i64 (t : Nat)) ∧ w2.drew.cell? ⟨g, t * 10 + 9, none⟩ = some (.slice tk rt.o.kids.length tck) := (unhide HSS) _ (unhide HBD)
      refine wpAnyH_take (i := 0) (oi := ({ dst := some 28, op := Op.move (Operand.tmp 0), type := 25, pos := _, after := #[], guard := none } : Oper)) (v := ?_) rfl (by kernel_rfl) (by kernel_rfl) (by kernel_rfl) (fun _ _ _ h => h) (Or.inl ⟨by rfl, ?_⟩) (by assumption) ?_
      rotate_left
      · first | (intro W0 hSw; (try dsimp only at hSw); go_simp; done) | (intro W0 hSw; (try dsimp only at hSw); go_simp; with_reducible rfl)
      (try simp only [Act.put]); (try simp only [List.setIfInBounds_toArray]); (try simp only [List.set_cons_succ]); (try simp only [List.set_cons_zero])
      refine wpAnyH_take (i := 1) (oi := ({ dst := some 29, op := Op.nilCheck (Operand.tmp 28), type := 0, pos := _, after := #[{ on := 0, ground := Ground.data }], guard := none } : Oper)) (v := ?_) rfl (by kernel_rfl) (by kernel_rfl) (by kernel_rfl) (fun _ _ _ h => h) (Or.inl ⟨by rfl, ?_⟩) (by assumption) ?_
      rotate_left
      · first | (intro W0 hSw; (try dsimp only at hSw); go_simp; done) | (intro W0 hSw; (try dsimp only at hSw); go_simp; with_reducible rfl)
      (try simp only [Act.put]); (try simp only [List.setIfInBounds_toArray]); (try simp only [List.set_cons_succ]); (try simp only [List.set_cons_zero])
      refine wpAnyH_take (i := 2) (oi := ({ dst := some 30, op := Op.fieldAddr 61 (Operand.tmp 29) 0, type := 0, pos := _, after := #[{ on := 1, ground := Ground.data }], guard := none } : Oper)) (v := ?_) rfl (by kernel_rfl) (by kernel_rfl) (by kernel_rfl) (fun _ _ _ h => h) (Or.inl ⟨by rfl, ?_⟩) (by assumption) ?_
      rotate_left
      · first | (intro W0 hSw; (try dsimp only at hSw); go_simp; done) | (intro W0 hSw; (try dsimp only at hSw); go_simp; with_reducible rfl)
      (try simp only [Act.put]); (try simp only [List.setIfInBounds_toArray]); (try simp only [List.set_cons_succ]); (try simp only [List.set_cons_zero])
      refine wpAnyH_take (i := 3) (oi := ({ dst := some 31, op := Op.load 59 (Operand.tmp 30), type := 59, pos := _, after := #[{ on := 2, ground := Ground.data }], guard := none } : Oper)) (v := ?_) rfl (by kernel_rfl) (by kernel_rfl) (by kernel_rfl) (fun _ _ _ h => h) (Or.inl ⟨by rfl, ?_⟩) (by assumption) ?_
      rotate_left
      · first | (intro W0 hSw; (try dsimp only at hSw); go_simp; done) | (intro W0 hSw; (try dsimp only at hSw); go_simp; with_reducible rfl)
      (try simp only [Act.put]); (try simp only [List.setIfInBounds_toArray]); (try simp only [List.set_cons_succ]); (try simp only [List.set_cons_zero])
      refine wpAnyH_take (i := 4) (oi := ({ dst := some 32, op := Op.move (Operand.tmp 0), type := 25, pos := _, after := #[], guard := none } : Oper)) (v := ?_) rfl (by kernel_rfl) (by kernel_rfl) (by kernel_rfl) (fun _ _ _ h => h) (Or.inl ⟨by rfl, ?_⟩) (by assumption) ?_
      rotate_left
      · first | (intro W0 hSw; (try dsimp only at hSw); go_simp; done) | (intro W0 hSw; (try dsimp only at hSw); go_simp; with_reducible rfl)
      (try simp only [Act.put]); (try simp only [List.setIfInBounds_toArray]); (try simp only [List.set_cons_succ]); (try simp only [List.set_cons_zero])
      refine wpAnyH_take (i := 5) (oi := ({ dst := some 33, op := Op.nilCheck (Operand.tmp 32), type := 0, pos := _, after := #[{ on := 4, ground := Ground.data }], guard := none } : Oper)) (v := ?_) rfl (by kernel_rfl) (by kernel_rfl) (by kernel_rfl) (fun _ _ _ h => h) (Or.inl ⟨by rfl, ?_⟩) (by assumption) ?_
      rotate_left
      · first | (intro W0 hSw; (try dsimp only at hSw); go_simp; done) | (intro W0 hSw; (try dsimp only at hSw); go_simp; with_reducible rfl)
      (try simp only [Act.put]); (try simp only [List.setIfInBounds_toArray]); (try simp only [List.set_cons_succ]); (try simp only [List.set_cons_zero])
      refine wpAnyH_take (i := 6) (oi := ({ dst := some 34, op := Op.fieldAddr 61 (Operand.tmp 33) 0, type := 0, pos := _, after := #[{ on := 5, ground := Ground.data }], guard := none } : Oper)) (v := ?_) rfl (by kernel_rfl) (by kernel_rfl) (by kernel_rfl) (fun _ _ _ h => h) (Or.inl ⟨by rfl, ?_⟩) (by assumption) ?_
      rotate_left
      · first | (intro W0 hSw; (try dsimp only at hSw); go_simp; done) | (intro W0 hSw; (try dsimp only at hSw); go_simp; with_reducible rfl)
      (try simp only [Act.put]); (try simp only [List.setIfInBounds_toArray]); (try simp only [List.set_cons_succ]); (try simp only [List.set_cons_zero])
      refine wpAnyH_take (i := 7) (oi := ({ dst := some 35, op := Op.load 59 (Operand.tmp 34), type := 59, pos := _, after := #[{ on := 6, ground := Ground.data }], guard := none } : Oper)) (v := ?_) rfl (by kernel_rfl) (by kernel_rfl) (by kernel_rfl) (fun _ _ _ h => h) (Or.inl ⟨by rfl, ?_⟩) (by assumption) ?_
      rotate_left
      · first | (intro W0 hSw; (try dsimp only at hSw); go_simp; done) | (intro W0 hSw; (try dsimp only at hSw); go_simp; with_reducible rfl)
      (try simp only [Act.put]); (try simp only [List.setIfInBounds_toArray]); (try simp only [List.set_cons_succ]); (try simp only [List.set_cons_zero])
      refine wpAnyH_take (i := 8) (oi := ({ dst := some 36, op := Op.indexAddr 59 (Operand.tmp 35) (Operand.const (Value.int IntKind.i64 0)), type := 0, pos := _, after := #[{ on := 7, ground := Ground.data }], guard := none } : Oper)) (v := ?_) rfl (by kernel_rfl) (by kernel_rfl) (by kernel_rfl) (fun _ _ _ h => h) (Or.inl ⟨by rfl, ?_⟩) (by assumption) ?_
      rotate_left
      · first | (intro W0 hSw; (try dsimp only at hSw); go_simp; done) | (intro W0 hSw; (try dsimp only at hSw); go_simp; with_reducible rfl)
      (try simp only [Act.put]); (try simp only [List.setIfInBounds_toArray]); (try simp only [List.set_cons_succ]); (try simp only [List.set_cons_zero])
      refine wpAnyH_take (i := 9) (oi := ({ dst := some 37, op := Op.fieldAddr 58 (Operand.tmp 36) 9, type := 0, pos := _, after := #[{ on := 8, ground := Ground.data }], guard := none } : Oper)) (v := ?_) rfl (by kernel_rfl) (by kernel_rfl) (by kernel_rfl) (fun _ _ _ h => h) (Or.inl ⟨by rfl, ?_⟩) (by assumption) ?_
      rotate_left
      · first | (intro W0 hSw; (try dsimp only at hSw); go_simp; done) | (intro W0 hSw; (try dsimp only at hSw); go_simp; with_reducible rfl)
      (try simp only [Act.put]); (try simp only [List.setIfInBounds_toArray]); (try simp only [List.set_cons_succ]); (try simp only [List.set_cons_zero])
      refine wpAnyH_take (i := 10) (oi := ({ dst := some 38, op := Op.load 56 (Operand.tmp 37), type := 56, pos := _, after := #[{ on := 9, ground := Ground.data }], guard := none } : Oper)) (v := ?_) rfl (by kernel_rfl) (by kernel_rfl) (by kernel_rfl) (fun _ _ _ h => h) (Or.inl ⟨by rfl, ?_⟩) (by assumption) ?_
      rotate_left
      · first | (intro W0 hSw; (try dsimp only at hSw); go_simp; done) | (intro W0 hSw; (try dsimp only at hSw); go_simp; with_reducible rfl)
      (try simp only [Act.put]); (try simp only [List.setIfInBounds_toArray]); (try simp only [List.set_cons_succ]); (try simp only [List.set_cons_zero])
      refine wpAnyH_take (i := 11) (oi := ({ dst := some 39, op := Op.indexAddr 56 (Operand.tmp 38) (Operand.const (Value.int IntKind.i64 0)), type := 0, pos := _, after := #[{ on := 10, ground := Ground.data }], guard := none } : Oper)) (v := ?_) rfl (by kernel_rfl) (by kernel_rfl) (by kernel_rfl) (fun _ _ _ h => h) (Or.inl ⟨by rfl, ?_⟩) (by assumption) ?_
      rotate_left
      · first | (intro W0 hSw; (try dsimp only at hSw); go_simp; done) | (intro W0 hSw; (try dsimp only at hSw); go_simp; with_reducible rfl)
      (try simp only [Act.put]); (try simp only [List.setIfInBounds_toArray]); (try simp only [List.set_cons_succ]); (try simp only [List.set_cons_zero])
      refine wpAnyH_take (i := 12) (oi := ({ dst := some 40, op := Op.load 3 (Operand.tmp 39), type := 3, pos := _, after := #[{ on := 11, ground := Ground.data }], guard := none } : Oper)) (v := ?_) rfl (by kernel_rfl) (by kernel_rfl) (by kernel_rfl) (fun _ _ _ h => h) (Or.inl ⟨by rfl, ?_⟩) (by assumption) ?_
      rotate_left
      · first | (intro W0 hSw; (try dsimp only at hSw); go_simp; done) | (intro W0 hSw; (try dsimp only at hSw); go_simp; with_reducible rfl)
      (try simp only [Act.put]); (try simp only [List.setIfInBounds_toArray]); (try simp only [List.set_cons_succ]); (try simp only [List.set_cons_zero])
      refine wpAnyH_take (i := 13) (oi := ({ dst := some 41, op := Op.indexAddr 59 (Operand.tmp 31) (Operand.tmp 40), type := 0, pos := _, after := #[{ on := 3, ground := Ground.data }, { on := 12, ground := Ground.data }], guard := none } : Oper)) (v := ?_) rfl (by kernel_rfl) (by kernel_rfl) (by kernel_rfl) (fun _ _ _ h => h) (Or.inl ⟨by rfl, ?_⟩) (by assumption) ?_
      rotate_left
      · first | (intro W0 hSw; (try dsimp only at hSw); go_simp; done) | (intro W0 hSw; (try dsimp only at hSw); go_simp; with_reducible rfl)
      (try simp only [Act.put]); (try simp only [List.setIfInBounds_toArray]); (try simp only [List.set_cons_succ]); (try simp only [List.set_cons_zero])
      refine wpAnyH_take (i := 14) (oi := ({ dst := some 42, op := Op.fieldAddr 58 (Operand.tmp 41) 9, type := 0, pos := _, after := #[{ on := 13, ground := Ground.data }], guard := none } : Oper)) (v := ?_) rfl (by kernel_rfl) (by kernel_rfl) (by kernel_rfl) (fun _ _ _ h => h) (Or.inl ⟨by rfl, ?_⟩) (by assumption) ?_
      rotate_left
      · first | (intro W0 hSw; (try dsimp only at hSw); go_simp; done) | (intro W0 hSw; (try dsimp only at hSw); go_simp; with_reducible rfl)
      (try simp only [Act.put]); (try simp only [List.setIfInBounds_toArray]); (try simp only [List.set_cons_succ]); (try simp only [List.set_cons_zero])
      refine wpAnyH_take (i := 15) (oi := ({ dst := some 43, op := Op.load 56 (Operand.tmp 42), type := 56, pos := _, after := #[{ on := 14, ground := Ground.data }], guard := none } : Oper)) (v := ?_) rfl (by kernel_rfl) (by kernel_rfl) (by kernel_rfl) (fun _ _ _ h => h) (Or.inl ⟨by rfl, ?_⟩) (by assumption) ?_
      rotate_left
      · first | (intro W0 hSw; (try dsimp only at hSw); go_simp; done) | (intro W0 hSw; (try dsimp only at hSw); go_simp; with_reducible rfl)
      (try simp only [Act.put]); (try simp only [List.setIfInBounds_toArray]); (try simp only [List.set_cons_succ]); (try simp only [List.set_cons_zero])
      refine wpAnyH_take (i := 16) (oi := ({ dst := some 3, op := Op.assign (Operand.tmp 43), type := 56, pos := _, after := #[{ on := 15, ground := Ground.data }, { on := 0, ground := Ground.phase }, { on := 1, ground := Ground.phase }, { on := 2, ground := Ground.phase }, { on := 3, ground := Ground.phase }, { on := 4, ground := Ground.phase }, { on := 5, ground := Ground.phase }, { on := 6, ground := Ground.phase }, { on := 7, ground := Ground.phase }, { on := 8, ground := Ground.phase }, { on := 9, ground := Ground.phase }, { on := 10, ground := Ground.phase }, { on := 11, ground := Ground.phase }, { on := 12, ground := Ground.phase }, { on := 13, ground := Ground.phase }, { on := 14, ground := Ground.phase }, { on := 15, ground := Ground.phase }], guard := none } : Oper)) (v := ?_) rfl (by kernel_rfl) (by kernel_rfl) (by kernel_rfl) (fun _ _ _ h => h) (Or.inl ⟨by rfl, ?_⟩) (by assumption) ?_
      rotate_left
      · first | (intro W0 hSw; (try dsimp only at hSw); go_simp; done) | (intro W0 hSw; (try dsimp only at hSw); go_simp; with_reducible rfl)
      (try simp only [Act.put]); (try simp only [List.setIfInBounds_toArray]); (try simp only [List.set_cons_succ]); (try simp only [List.set_cons_zero])
      refine wpAnyH_done (by kernel_rfl) ?_ _
      clear hHeld
      obtain ⟨kl, hkl2⟩ : ∃ x, rt.o.kids = x := ⟨_, rfl⟩
      by_cases hl2 : rt.o.kids.length = 2
      · obtain ⟨x, y, hxy⟩ : ∃ x y, rt.o.kids = [x, y] := by
          match hq : rt.o.kids with
          | [x, y] => exact ⟨x, y, rfl⟩
          | [] => rw [hq] at hl2; cases hl2
          | [x] => rw [hq] at hl2; cases hl2
          | x :: y :: z :: u => rw [hq] at hl2; simp at hl2
        have hints := unhide HTI
        rw [hxy] at hints
        obtain ⟨tb, toff, rfl, hkx⟩ := ints_kept hints (j := 0) (k := x) rfl
        obtain ⟨_, _, e2, hky⟩ := ints_kept hints (j := 1) (k := y) rfl
        cases e2
        obtain ⟨rx, hrx⟩ := ((unhide HIN) t rt (unhide HRT)).2.2 x (by rw [hxy]; simp)
        obtain ⟨ry, hry⟩ := ((unhide HIN) t rt (unhide HRT)).2.2 y (by rw [hxy]; simp)
        have hres := unhide HRES
        rw [hxy] at hres
        have hres : (headD (osOf rs) x && bodyD (osOf rs) n y) = res := hres
        rw [bodyD_of hry] at hres
        have HKB := hide (fun W hW => (unhide HKS) x t y rt (unhide HK0) (unhide HRT) hxy ry hry W hW)
        obtain ⟨ya, yc, yk, yck, hyain, _, _, ⟨hyz, _⟩, hyc⟩ := rf_node (unhide HRF) hry
        have hok := (unhide HIN) y ry hry
        have HXA := hide (fun W (hW : Below w.heap.size w W) => xattrs_any W ya yc ry.o.attrs (hyain.below hW) hok.2.1 (fun z hz => ⟨by have := hok.1.attrs z hz; omega, by have := hok.1.attrs z hz; omega⟩))
        have HXH := hide (fun W (hW : Below w.heap.size w W) => xhead_any ((unhide HRF).below hW) x rx hrx (unhide HIN2))
        have HSS2 : Hid (∀ W, Below w.heap.size w W → W.cell? ⟨bR, 0, none⟩ = some (.slice (some ⟨g, 0, none⟩) rs.length cap) ∧ W.cell? ⟨tb, toff + 1, none⟩ = some (.int .i64 (y : Nat)) ∧ W.cell? ⟨g, y * 10, none⟩ = some (.int .i64 ry.o.kind) ∧ W.cell? ⟨g, y * 10 + 1, none⟩ = some (.int .i64 ry.o.space) ∧ W.cell? ⟨g, y * 10 + 2, none⟩ = some (.string ry.o.name) ∧ W.cell? ⟨g, y * 10 + 3, none⟩ = some (.slice ya ry.o.attrs.length yc) ∧ W.cell? ⟨g, y * 10 + 4, none⟩ = some (.string ry.o.data) ∧ W.cell? ⟨g, y * 10 + 5, none⟩ = some (.string ry.o.system) ∧ W.cell? ⟨g, y * 10 + 6, none⟩ = some (.int .i64 ry.o.inner) ∧ W.cell? ⟨g, y * 10 + 7, none⟩ = some (.int .i64 ry.o.host) ∧ W.cell? ⟨g, y * 10 + 8, none⟩ = some (.int .i64 ry.o.up) ∧ W.cell? ⟨g, y * 10 + 9, none⟩ = some (.slice yk ry.o.kids.length yck)) := hide (fun W hW => by
          obtain ⟨a0, q0, q1, q2, q3, q4, q5, q6, q7, q8, q9⟩ := hyc W hW
          exact ⟨a0, hky W hW, q0, q1, q2, q3, q4, q5, q6, q7, q8, q9⟩)
        have m0 : w2.drew.cell? ⟨tb, toff, none⟩ = some (.int .i64 (x : Nat)) := hkx _ (unhide HBD)
        have HKY := hide hky
        have HRES := hide hres
        rw [hl2]
        clear hres hok hyain hyc hry hrx hkx hky hints hxy hl2 hkl2 kl
        go_wp2_with (go_at_call 28; fail)
        refine ((unhide HXH) _ (unhide HBD)).mono ?_
        rintro e w3 ⟨rfl, hb⟩
        have HB3 := hide ((unhide HBD).trans (hb.mono (unhide HBD).size))
        clear hb m0 HXH
        have hres := unhide HRES
        cases h3 : headD (osOf rs) x with
        | false =>
          rw [h3] at hres
          have HR : Hid (false = res) := hide hres
          clear hres
          go_wp2
          go_ret
          exact ⟨by rw [← unhide HR]; rfl, unhide HB3⟩
        | true =>
          rw [h3] at hres
          have hres : (bodyO ry.o && kidsD (osOf rs) (fun x => oneD (osOf rs) n x true 3) (-1) ry.o.kids) = res := hres
          have HRES := hide hres
          clear hres
          go_wp2
          have HBE := hide (below_drx (unhide HB3))
          refine wp_region_held (S := fun W => W.cell? ⟨bR, 0, none⟩ = some (.slice (some ⟨g, 0, none⟩) rs.length cap) ∧ W.cell? ⟨tb, toff + 1, none⟩ = some (.int .i64 (y : Nat)) ∧ W.cell? ⟨g, y * 10, none⟩ = some (.int .i64 ry.o.kind) ∧ W.cell? ⟨g, y * 10 + 1, none⟩ = some (.int .i64 ry.o.space) ∧ W.cell? ⟨g, y * 10 + 2, none⟩ = some (.string ry.o.name) ∧ W.cell? ⟨g, y * 10 + 3, none⟩ = some (.slice ya ry.o.attrs.length yc) ∧ W.cell? ⟨g, y * 10 + 4, none⟩ = some (.string ry.o.data) ∧ W.cell? ⟨g, y * 10 + 5, none⟩ = some (.string ry.o.system) ∧ W.cell? ⟨g, y * 10 + 6, none⟩ = some (.int .i64 ry.o.inner) ∧ W.cell? ⟨g, y * 10 + 7, none⟩ = some (.int .i64 ry.o.host) ∧ W.cell? ⟨g, y * 10 + 8, none⟩ = some (.int .i64 ry.o.up) ∧ W.cell? ⟨g, y * 10 + 9, none⟩ = some (.slice yk ry.o.kids.length yck)) (by kernel_rfl) ?_
          try (change wpAnyH _ _ _ _ _ _ _ _ (World.drew _))
          have hHeld : w3.drew.cell? ⟨bR, 0, none⟩ = some (.slice (some ⟨g, 0, none⟩) rs.length cap) ∧ w3.drew.cell? ⟨tb, toff + 1, none⟩ = some (.int .i64 (y : Nat)) ∧ w3.drew.cell? ⟨g, y * 10, none⟩ = some (.int .i64 ry.o.kind) ∧ w3.drew.cell? ⟨g, y * 10 + 1, none⟩ = some (.int .i64 ry.o.space) ∧ w3.drew.cell? ⟨g, y * 10 + 2, none⟩ = some (.string ry.o.name) ∧ w3.drew.cell? ⟨g, y * 10 + 3, none⟩ = some (.slice ya ry.o.attrs.length yc) ∧ w3.drew.cell? ⟨g, y * 10 + 4, none⟩ = some (.string ry.o.data) ∧ w3.drew.cell? ⟨g, y * 10 + 5, none⟩ = some (.string ry.o.system) ∧ w3.drew.cell? ⟨g, y * 10 + 6, none⟩ = some (.int .i64 ry.o.inner) ∧ w3.drew.cell? ⟨g, y * 10 + 7, none⟩ = some (.int .i64 ry.o.host) ∧ w3.drew.cell? ⟨g, y * 10 + 8, none⟩ = some (.int .i64 ry.o.up) ∧ w3.drew.cell? ⟨g, y * 10 + 9, none⟩ = some (.slice yk ry.o.kids.length yck) := (unhide HSS2) _ (unhide HBE)
          refine wpAnyH_take (i := 0) (oi := ({ dst := some 55, op := Op.move (Operand.tmp 0), type := 25, pos := _, after := #[], guard := none } : Oper)) (v := ?_) rfl (by kernel_rfl) (by kernel_rfl) (by kernel_rfl) (fun _ _ _ h => h) (Or.inl ⟨by rfl, ?_⟩) (by assumption) ?_
          rotate_left
          · first | (intro W0 hSw; (try dsimp only at hSw); go_simp; done) | (intro W0 hSw; (try dsimp only at hSw); go_simp; with_reducible rfl)
          (try simp only [Act.put]); (try simp only [List.setIfInBounds_toArray]); (try simp only [List.set_cons_succ]); (try simp only [List.set_cons_zero])
          refine wpAnyH_take (i := 1) (oi := ({ dst := some 56, op := Op.nilCheck (Operand.tmp 55), type := 0, pos := _, after := #[{ on := 0, ground := Ground.data }], guard := none } : Oper)) (v := ?_) rfl (by kernel_rfl) (by kernel_rfl) (by kernel_rfl) (fun _ _ _ h => h) (Or.inl ⟨by rfl, ?_⟩) (by assumption) ?_
          rotate_left
          · first | (intro W0 hSw; (try dsimp only at hSw); go_simp; done) | (intro W0 hSw; (try dsimp only at hSw); go_simp; with_reducible rfl)
          (try simp only [Act.put]); (try simp only [List.setIfInBounds_toArray]); (try simp only [List.set_cons_succ]); (try simp only [List.set_cons_zero])
          refine wpAnyH_take (i := 2) (oi := ({ dst := some 57, op := Op.fieldAddr 61 (Operand.tmp 56) 0, type := 0, pos := _, after := #[{ on := 1, ground := Ground.data }], guard := none } : Oper)) (v := ?_) rfl (by kernel_rfl) (by kernel_rfl) (by kernel_rfl) (fun _ _ _ h => h) (Or.inl ⟨by rfl, ?_⟩) (by assumption) ?_
          rotate_left
          · first | (intro W0 hSw; (try dsimp only at hSw); go_simp; done) | (intro W0 hSw; (try dsimp only at hSw); go_simp; with_reducible rfl)
          (try simp only [Act.put]); (try simp only [List.setIfInBounds_toArray]); (try simp only [List.set_cons_succ]); (try simp only [List.set_cons_zero])
          refine wpAnyH_take (i := 3) (oi := ({ dst := some 58, op := Op.load 59 (Operand.tmp 57), type := 59, pos := _, after := #[{ on := 2, ground := Ground.data }], guard := none } : Oper)) (v := ?_) rfl (by kernel_rfl) (by kernel_rfl) (by kernel_rfl) (fun _ _ _ h => h) (Or.inl ⟨by rfl, ?_⟩) (by assumption) ?_
          rotate_left
          · first | (intro W0 hSw; (try dsimp only at hSw); go_simp; done) | (intro W0 hSw; (try dsimp only at hSw); go_simp; with_reducible rfl)
          (try simp only [Act.put]); (try simp only [List.setIfInBounds_toArray]); (try simp only [List.set_cons_succ]); (try simp only [List.set_cons_zero])
          refine wpAnyH_take (i := 4) (oi := ({ dst := some 59, op := Op.move (Operand.tmp 3), type := 56, pos := _, after := #[], guard := none } : Oper)) (v := ?_) rfl (by kernel_rfl) (by kernel_rfl) (by kernel_rfl) (fun _ _ _ h => h) (Or.inl ⟨by rfl, ?_⟩) (by assumption) ?_
          rotate_left
          · first | (intro W0 hSw; (try dsimp only at hSw); go_simp; done) | (intro W0 hSw; (try dsimp only at hSw); go_simp; with_reducible rfl)
          (try simp only [Act.put]); (try simp only [List.setIfInBounds_toArray]); (try simp only [List.set_cons_succ]); (try simp only [List.set_cons_zero])
          refine wpAnyH_take (i := 5) (oi := ({ dst := some 60, op := Op.indexAddr 56 (Operand.tmp 59) (Operand.const (Value.int IntKind.i64 1)), type := 0, pos := _, after := #[{ on := 4, ground := Ground.data }], guard := none } : Oper)) (v := ?_) rfl (by kernel_rfl) (by kernel_rfl) (by kernel_rfl) (fun _ _ _ h => h) (Or.inl ⟨by rfl, ?_⟩) (by assumption) ?_
          rotate_left
          · first | (intro W0 hSw; (try dsimp only at hSw); go_simp; done) | (intro W0 hSw; (try dsimp only at hSw); go_simp; with_reducible rfl)
          (try simp only [Act.put]); (try simp only [List.setIfInBounds_toArray]); (try simp only [List.set_cons_succ]); (try simp only [List.set_cons_zero])
          refine wpAnyH_take (i := 6) (oi := ({ dst := some 61, op := Op.load 3 (Operand.tmp 60), type := 3, pos := _, after := #[{ on := 5, ground := Ground.data }], guard := none } : Oper)) (v := ?_) rfl (by kernel_rfl) (by kernel_rfl) (by kernel_rfl) (fun _ _ _ h => h) (Or.inl ⟨by rfl, ?_⟩) (by assumption) ?_
          rotate_left
          · first | (intro W0 hSw; (try dsimp only at hSw); go_simp; done) | (intro W0 hSw; (try dsimp only at hSw); go_simp; with_reducible rfl)
          (try simp only [Act.put]); (try simp only [List.setIfInBounds_toArray]); (try simp only [List.set_cons_succ]); (try simp only [List.set_cons_zero])
          refine wpAnyH_take (i := 7) (oi := ({ dst := some 62, op := Op.indexAddr 59 (Operand.tmp 58) (Operand.tmp 61), type := 0, pos := _, after := #[{ on := 3, ground := Ground.data }, { on := 6, ground := Ground.data }], guard := none } : Oper)) (v := ?_) rfl (by kernel_rfl) (by kernel_rfl) (by kernel_rfl) (fun _ _ _ h => h) (Or.inl ⟨by rfl, ?_⟩) (by assumption) ?_
          rotate_left
          · first | (intro W0 hSw; (try dsimp only at hSw); go_simp; done) | (intro W0 hSw; (try dsimp only at hSw); go_simp; with_reducible rfl)
          (try simp only [Act.put]); (try simp only [List.setIfInBounds_toArray]); (try simp only [List.set_cons_succ]); (try simp only [List.set_cons_zero])
          refine wpAnyH_take (i := 8) (oi := ({ dst := some 63, op := Op.load 58 (Operand.tmp 62), type := 58, pos := _, after := #[{ on := 7, ground := Ground.data }], guard := none } : Oper)) (v := ?_) rfl (by kernel_rfl) (by kernel_rfl) (by kernel_rfl) (fun _ _ _ h => h) (Or.inl ⟨by rfl, ?_⟩) (by assumption) ?_
          rotate_left
          · first | (intro W0 hSw; (try dsimp only at hSw); go_simp; done) | (intro W0 hSw; (try dsimp only at hSw); go_simp; with_reducible rfl)
          (try simp only [Act.put]); (try simp only [List.setIfInBounds_toArray]); (try simp only [List.set_cons_succ]); (try simp only [List.set_cons_zero])
          refine wpAnyH_ready (rs := [9]) (by kernel_rfl) (by simp) ?_
          refine AllReadyH.cons (o := ({ dst := some 4, op := Op.alloc 58, type := 0, pos := _, after := #[], guard := none } : Oper)) rfl (fun K hK => ?_) AllReadyH.nil
          go_simp
          refine hK.out _ _ ?_ (fun hHeld => ?_)
          · exact (unhide HSS2) _ ((unhide HBE).alloc (unhide HBE).size _)
          clear hK K
          (try simp only [Act.put]); (try simp only [List.setIfInBounds_toArray]); (try simp only [List.set_cons_succ]); (try simp only [List.set_cons_zero])
          refine wpAnyH_ready (rs := [10]) (by kernel_rfl) (by simp) ?_
          refine AllReadyH.cons (o := ({ dst := none, op := Op.store 58 (Operand.tmp 4) (Operand.tmp 63), type := 0, pos := _, after := #[{ on := 9, ground := Ground.data }, { on := 8, ground := Ground.data }, { on := 0, ground := Ground.phase }, { on := 1, ground := Ground.phase }, { on := 2, ground := Ground.phase }, { on := 3, ground := Ground.phase }, { on := 4, ground := Ground.phase }, { on := 5, ground := Ground.phase }, { on := 6, ground := Ground.phase }, { on := 7, ground := Ground.phase }, { on := 8, ground := Ground.phase }, { on := 9, ground := Ground.phase }], guard := none } : Oper)) rfl (fun K hK => ?_) AllReadyH.nil
          go_simp
          refine hK.out _ _ ?_ (fun hHeld => ?_)
          · exact (unhide HSS2) _ ((unhide HBE).alloc (unhide HBE).size (.cells #[.int .i64 ry.o.kind, .int .i64 ry.o.space, .string ry.o.name, .slice ya ry.o.attrs.length yc, .string ry.o.data, .string ry.o.system, .int .i64 ry.o.inner, .int .i64 ry.o.host, .int .i64 ry.o.up, .slice yk ry.o.kids.length yck] 58))
          clear hK K
          (try simp only [Act.put]); (try simp only [List.setIfInBounds_toArray]); (try simp only [List.set_cons_succ]); (try simp only [List.set_cons_zero])
          refine wpAnyH_done (by kernel_rfl) ?_ _
          have hHeld2 := hHeld.2.1
          clear hHeld
          have HBA := hide ((unhide HBE).alloc (unhide HBE).size (.cells #[.int .i64 ry.o.kind, .int .i64 ry.o.space, .string ry.o.name, .slice ya ry.o.attrs.length yc, .string ry.o.data, .string ry.o.system, .int .i64 ry.o.inner, .int .i64 ry.o.host, .int .i64 ry.o.up, .slice yk ry.o.kids.length yck] 58))
          unfold bodyO at HRES
          cases h4 : (ry.o.kind == 1) with
          | false =>
            have HR : Hid (false = res) := hide (by rw [← unhide HRES, h4]; rfl)
            go_wp2
            go_ret
            exact ⟨by rw [← unhide HR]; rfl, unhide HBA⟩
          | true =>
            cases h5 : (ry.o.space == 0) with
            | false =>
              have HR : Hid (false = res) := hide (by rw [← unhide HRES, h4, h5]; rfl)
              go_wp2
              go_ret
              exact ⟨by rw [← unhide HR]; rfl, unhide HBA⟩
            | true =>
              cases h6 : (ry.o.name.toList == [98, 111, 100, 121]) with
              | false =>
                have HR : Hid (false = res) := hide (by rw [← unhide HRES, h4, h5, h6]; rfl)
                go_wp2
                go_ret
                exact ⟨by rw [← unhide HR]; rfl, unhide HBA⟩
              | true =>
                cases h7 : attrsOk ry.o.attrs with
                | false =>
                  have HR : Hid (false = res) := hide (by rw [← unhide HRES, h4, h5, h6, h7]; rfl)
                  rw [h7] at HXA
                  go_wp2_with (go_at_call 29; refine ((unhide HXA) _ (unhide HBA)).mono ?_; rintro e w4 ⟨rfl, hb⟩; have HB4 := hide ((unhide HBA).trans (hb.mono (unhide HBA).size)); clear hb)
                  go_ret
                  exact ⟨by rw [← unhide HR]; rfl, unhide HB4⟩
                | true =>
                  have HR : Hid (kidsD (osOf rs) (fun x => oneD (osOf rs) n x true 3) (-1) ry.o.kids = res) := hide (by rw [← unhide HRES, h4, h5, h6, h7]; rfl)
                  rw [h7] at HXA
                  clear hHeld2
                  go_wp2_with (first
                    | (go_at_call 29; refine ((unhide HXA) _ (unhide HBA)).mono ?_; rintro e w4 ⟨rfl, hb⟩; have HB4 := hide ((unhide HBA).trans (hb.mono (unhide HBA).size)); have m4 := (unhide HKY) _ (unhide HB4); clear hb)
                    | (go_at_call 30; refine ((unhide HKB) _ (unhide HB4)).mono ?_; rintro e w5 ⟨rfl, hb⟩; have HB5 := hide ((unhide HB4).trans (hb.mono (unhide HB4).size)); clear hb))
                  go_ret
                  exact ⟨by rw [← unhide HR]; rfl, unhide HB5⟩
      · have hne : (([] : List Nat).length = 0) := rfl
        have hlz : ((rt.o.kids.length : Int) != 2) = true := by rw [bne_iff_ne]; omega
        have HR : Hid (false = res) := hide (by
          rw [← unhide HRES]
          match hq : rt.o.kids with
          | [x, y] => rw [hq] at hl2; exact absurd rfl hl2
          | [] => rfl
          | [x] => rfl
          | x :: y :: z :: u => rfl)
        clear hne hkl2 hl2
        go_wp2
        go_ret
        exact ⟨by rw [← unhide HR]; rfl, unhide HBD⟩
end Go.Proofs.YtmnmaenmoaehlaaGreatDoor
