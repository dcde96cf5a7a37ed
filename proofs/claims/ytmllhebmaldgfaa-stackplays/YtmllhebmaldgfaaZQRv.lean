/-
  The document's stack: Implied. The law's play: a call a theorem.
-/
import Derived.Test.YtmllhebmaldgfaaQRn
import Derived.Test.YtmllhebmaldgfaaQRw
import Derived.Test.YtmllhebmaldgfaaQEa
namespace Go.Proofs.Ytmllhebmaldgfaa
open Go.RowKit

section
variable {w : World} {base bW bR : Nat} {ks : List Key} {L : List Int} {F FA : Nat → Prop} {p : PartM}

set_option maxRecDepth 100000 in
set_option maxHeartbeats 8000000 in
theorem rImplied_any (ha : RfK w base bR ks FA) (hs : RstS w base bW bR L F) (hd : ∀ k, FA k → ¬ F k) (hg : Good ks L) (but : ByteArray) :
    Calls Try.prog 51 #[.pointer (some ⟨bW, 0, none⟩), .string but] w fun e w' => e = .returned (.int .i64 ((L.length : Int) - (impN ks L but : Int))) ∧ UpdW F w w' base bW bR (L.take (impN ks L but)) := by
  unfold impN
  have hl := (LiveR.mk' ha hs).few hg
  have HA := hide ha
  have HS := hide hs
  have HD := hide hd
  have HG := hide hg
  have hlz : (L.length : Int) ≤ 32768 := by omega
  have HLL := hide hl
  have hund : undef = Value.tuple #[] := rfl
  clear ha hs hd hg hl
  go_enter Try.func51, Try.ntmps51
  go_wp2
  go_loopg [5] L.length (fun g s5 wr => s5 = .int .i64 ((L.length : Int) - (g : Int)) ∧ g ≤ L.length ∧ UpdW F w wr base bW bR (L.take g) ∧ leaveN (fun id => impM (calOf ks id) but) L L.length = leaveN (fun id => impM (calOf ks id) but) L g)
  case atStart => exact ⟨by simp, Nat.le_refl _, by rw [List.take_length]; exact (unhide HS).upd (Below.refl _ _), rfl⟩
  case round =>
    obtain ⟨rfl, hgl, hu, hrec⟩ := hrel
    have HU := hide hu
    have HR := hide hrec
    obtain ⟨F', hst, hmod, hfoot⟩ := hu
    have har := (unhide HA).mod hmod (unhide HD)
    have hlen : (L.take gk).length = gk := by simp; omega
    have hlv := LiveR.mk' har hst
    have HT : Hid (∀ w1, Below wr.heap.size wr w1 → Calls Try.prog 59 #[.pointer (some ⟨bW, 0, none⟩)] w1 fun e w' => e = .returned (.int .i64 (topM (L.take gk))) ∧ w1 = w') := hide (fun w1 hb => rTop_any (hst.below hb) (by rw [hlen]; have := unhide HLL; omega))
    have HO : Hid (∀ x w1 b, Below wr.heap.size wr w1 → TabAt w1 b impT → Calls Try.prog 90 #[.pointer (some ⟨bW, 0, none⟩), .int .i64 x, .slice (some ⟨b, 0, none⟩) 10 10] w1 fun e w' => e = .returned (.bool ((elOf ks x).isSome && amongM (calOf ks x) 0 impT)) ∧ Below wr.heap.size wr w') := hide (fun x w1 b hb ht => by
      refine (rOf_any (hlv.below hb) x impT (by decide) b ht).mono ?_
      rintro e w' ⟨rfl, rfl⟩
      exact ⟨rfl, hb⟩)
    clear hrec
    cases gk with
    | zero =>
      have et : topM (L.take 0) = -1 := by rw [List.take_zero]; rfl
      have HO2 := hide ((unhide HO) (-1))
      rw [et] at HT
      rw [elOf_neg] at HO2
      clear hst hmod hfoot har hlen et HO hlv
      go_wp2_with fail
      have HB0' := hide (Below.refl wr.heap.size wr)
      have HLE0 := hide (Nat.le_refl wr.heap.size)
      refine wp_region_any (by kernel_rfl) ?_
      try (change wpAny _ _ _ _ _ _ _ (World.drew _))
      refine wpAny_take (i := 0) (oi := ({ dst := some 6, op := Op.move (Operand.tmp 0), type := 32, pos := _, after := #[], guard := none } : Oper)) (v := ?_) rfl (by kernel_rfl) (by kernel_rfl) (by kernel_rfl) (fun _ _ _ h => h) (Or.inl ⟨by rfl, ?_⟩) ?_
      rotate_left
      · first | (intro W0; go_simp; done) | (intro W0; go_simp; with_reducible rfl)
      (try simp only [Act.put]); (try simp only [List.setIfInBounds_toArray]); (try simp only [List.set_cons_succ]); (try simp only [List.set_cons_zero])
      refine wpAny_take (i := 1) (oi := ({ dst := some 7, op := Op.move (Operand.tmp 0), type := 32, pos := _, after := #[], guard := none } : Oper)) (v := ?_) rfl (by kernel_rfl) (by kernel_rfl) (by kernel_rfl) (fun _ _ _ h => h) (Or.inl ⟨by rfl, ?_⟩) ?_
      rotate_left
      · first | (intro W0; go_simp; done) | (intro W0; go_simp; with_reducible rfl)
      (try simp only [Act.put]); (try simp only [List.setIfInBounds_toArray]); (try simp only [List.set_cons_succ]); (try simp only [List.set_cons_zero])
      refine wpAny_ready (rs := [2, 3]) (by kernel_rfl) (by simp) ?_
      refine AllReady.cons rfl (fun K hK => ?_) (AllReady.cons rfl (fun K hK => ?_) AllReady.nil)
      · go_simp
        (go_at_call 59; refine ((unhide HT) _ (by repeat' (with_reducible (first | exact unhide HB2 | exact unhide HB0' | exact unhide HLE0 | exact unhide HLE2 | apply balloc | apply bdrew)))).mono ?_; rintro e w1 ⟨rfl, rfl⟩)
        refine hK _ _ ?_
        clear hK K
        (try simp only [Act.put]); (try simp only [List.setIfInBounds_toArray]); (try simp only [List.set_cons_succ]); (try simp only [List.set_cons_zero])
        refine wpAny_ready (rs := [3]) (by kernel_rfl) (by simp) ?_
        refine AllReady.cons rfl (fun K hK => ?_) AllReady.nil
        go_simp
        refine hK _ _ ?_
        clear hK K
        (try simp only [Act.put]); (try simp only [List.setIfInBounds_toArray]); (try simp only [List.set_cons_succ]); (try simp only [List.set_cons_zero])
        refine wpAny_ready (rs := [4]) (by kernel_rfl) (by simp) ?_
        refine AllReady.cons rfl (fun K hK => ?_) AllReady.nil
        go_simp
        (go_at_call 90; refine ((unhide HO2) _ _ (by repeat' (with_reducible (first | exact unhide HB2 | exact unhide HB0' | exact unhide HLE0 | exact unhide HLE2 | apply balloc | apply bdrew))) (by first | exact tab_new wr impT _ | exact (tab_new wr impT _).below ((Below.refl _ _).drew) | exact (tab_new wr impT _).below (below_dn (Below.refl _ _) _) | exact tab_new (wr.drew) impT _ | exact (tab_new (wr.drew) impT _).below ((Below.refl _ _).drew) | exact tab_new (wr.drewN _) impT _ | exact (tab_new (wr.drewN _) impT _).below (below_dn (Below.refl _ _) _))).mono ?_; rintro e w2 ⟨rfl, hb⟩; have HB2 := hide hb; have HLE2 := hide hb.size; clear hb)
        refine hK _ _ ?_
        clear hK K
        (try simp only [Act.put]); (try simp only [List.setIfInBounds_toArray]); (try simp only [List.set_cons_succ]); (try simp only [List.set_cons_zero])
        refine wpAny_take (i := 5) (oi := ({ dst := some 11, op := Op.move (Operand.tmp 10), type := 4, pos := _, after := #[{ on := 4, ground := Ground.data }, { on := 4, ground := Ground.chain }], guard := none } : Oper)) (v := ?_) rfl (by kernel_rfl) (by kernel_rfl) (by kernel_rfl) (fun _ _ _ h => h) (Or.inl ⟨by rfl, ?_⟩) ?_
        rotate_left
        · first | (intro W0; go_simp; done) | (intro W0; go_simp; with_reducible rfl)
        (try simp only [Act.put]); (try simp only [List.setIfInBounds_toArray]); (try simp only [List.set_cons_succ]); (try simp only [List.set_cons_zero])
        refine wpAny_take (i := 6) (oi := ({ dst := some 12, op := Op.move (Operand.tmp 0), type := 32, pos := _, after := #[{ on := 5, ground := Ground.guard }], guard := some (5, true) } : Oper)) (v := undef) rfl (by kernel_rfl) (by kernel_rfl) (by kernel_rfl) (fun _ _ _ h => h) (Or.inr ⟨by rfl, rfl⟩) ?_
        (try simp only [Act.put]); (try simp only [List.setIfInBounds_toArray]); (try simp only [List.set_cons_succ]); (try simp only [List.set_cons_zero])
        refine wpAny_take (i := 7) (oi := ({ dst := some 13, op := Op.nilCheck (Operand.tmp 12), type := 0, pos := _, after := #[{ on := 6, ground := Ground.data }, { on := 5, ground := Ground.guard }], guard := some (5, true) } : Oper)) (v := undef) rfl (by kernel_rfl) (by kernel_rfl) (by kernel_rfl) (fun _ _ _ h => h) (Or.inr ⟨by rfl, rfl⟩) ?_
        (try simp only [Act.put]); (try simp only [List.setIfInBounds_toArray]); (try simp only [List.set_cons_succ]); (try simp only [List.set_cons_zero])
        refine wpAny_take (i := 8) (oi := ({ dst := some 14, op := Op.fieldAddr 85 (Operand.tmp 13) 0, type := 0, pos := _, after := #[{ on := 7, ground := Ground.data }, { on := 5, ground := Ground.guard }], guard := some (5, true) } : Oper)) (v := undef) rfl (by kernel_rfl) (by kernel_rfl) (by kernel_rfl) (fun _ _ _ h => h) (Or.inr ⟨by rfl, rfl⟩) ?_
        (try simp only [Act.put]); (try simp only [List.setIfInBounds_toArray]); (try simp only [List.set_cons_succ]); (try simp only [List.set_cons_zero])
        refine wpAny_take (i := 9) (oi := ({ dst := some 15, op := Op.load 25 (Operand.tmp 14), type := 25, pos := _, after := #[{ on := 8, ground := Ground.data }, { on := 5, ground := Ground.guard }], guard := some (5, true) } : Oper)) (v := undef) rfl (by kernel_rfl) (by kernel_rfl) (by kernel_rfl) (fun _ _ _ h => h) (Or.inr ⟨by rfl, rfl⟩) ?_
        (try simp only [Act.put]); (try simp only [List.setIfInBounds_toArray]); (try simp only [List.set_cons_succ]); (try simp only [List.set_cons_zero])
        refine wpAny_take (i := 10) (oi := ({ dst := some 16, op := Op.nilCheck (Operand.tmp 15), type := 0, pos := _, after := #[{ on := 9, ground := Ground.data }, { on := 5, ground := Ground.guard }], guard := some (5, true) } : Oper)) (v := undef) rfl (by kernel_rfl) (by kernel_rfl) (by kernel_rfl) (fun _ _ _ h => h) (Or.inr ⟨by rfl, rfl⟩) ?_
        (try simp only [Act.put]); (try simp only [List.setIfInBounds_toArray]); (try simp only [List.set_cons_succ]); (try simp only [List.set_cons_zero])
        refine wpAny_take (i := 11) (oi := ({ dst := some 17, op := Op.fieldAddr 132 (Operand.tmp 16) 0, type := 0, pos := _, after := #[{ on := 10, ground := Ground.data }, { on := 5, ground := Ground.guard }], guard := some (5, true) } : Oper)) (v := undef) rfl (by kernel_rfl) (by kernel_rfl) (by kernel_rfl) (fun _ _ _ h => h) (Or.inr ⟨by rfl, rfl⟩) ?_
        (try simp only [Act.put]); (try simp only [List.setIfInBounds_toArray]); (try simp only [List.set_cons_succ]); (try simp only [List.set_cons_zero])
        refine wpAny_take (i := 12) (oi := ({ dst := some 18, op := Op.load 130 (Operand.tmp 17), type := 130, pos := _, after := #[{ on := 11, ground := Ground.data }, { on := 5, ground := Ground.guard }], guard := some (5, true) } : Oper)) (v := undef) rfl (by kernel_rfl) (by kernel_rfl) (by kernel_rfl) (fun _ _ _ h => h) (Or.inr ⟨by rfl, rfl⟩) ?_
        (try simp only [Act.put]); (try simp only [List.setIfInBounds_toArray]); (try simp only [List.set_cons_succ]); (try simp only [List.set_cons_zero])
        refine wpAny_take (i := 13) (oi := ({ dst := some 19, op := Op.move (Operand.tmp 0), type := 32, pos := _, after := #[{ on := 5, ground := Ground.guard }], guard := some (5, true) } : Oper)) (v := undef) rfl (by kernel_rfl) (by kernel_rfl) (by kernel_rfl) (fun _ _ _ h => h) (Or.inr ⟨by rfl, rfl⟩) ?_
        (try simp only [Act.put]); (try simp only [List.setIfInBounds_toArray]); (try simp only [List.set_cons_succ]); (try simp only [List.set_cons_zero])
        refine wpAny_take (i := 14) (oi := ({ dst := some 20, op := Op.call { callee := Callee.value (Operand.func 59), args := #[Operand.tmp 19], argTypes := #[32] }, type := 3, pos := _, after := #[{ on := 13, ground := Ground.data }, { on := 5, ground := Ground.chain }, { on := 5, ground := Ground.guard }], guard := some (5, true) } : Oper)) (v := undef) rfl (by kernel_rfl) (by kernel_rfl) (by kernel_rfl) (fun _ _ _ h => h) (Or.inr ⟨by rfl, rfl⟩) ?_
        (try simp only [Act.put]); (try simp only [List.setIfInBounds_toArray]); (try simp only [List.set_cons_succ]); (try simp only [List.set_cons_zero])
        refine wpAny_take (i := 15) (oi := ({ dst := some 21, op := Op.indexAddr 130 (Operand.tmp 18) (Operand.tmp 20), type := 0, pos := _, after := #[{ on := 12, ground := Ground.data }, { on := 14, ground := Ground.data }, { on := 5, ground := Ground.guard }], guard := some (5, true) } : Oper)) (v := undef) rfl (by kernel_rfl) (by kernel_rfl) (by kernel_rfl) (fun _ _ _ h => h) (Or.inr ⟨by rfl, rfl⟩) ?_
        (try simp only [Act.put]); (try simp only [List.setIfInBounds_toArray]); (try simp only [List.set_cons_succ]); (try simp only [List.set_cons_zero])
        refine wpAny_take (i := 16) (oi := ({ dst := some 22, op := Op.fieldAddr 129 (Operand.tmp 21) 2, type := 0, pos := _, after := #[{ on := 15, ground := Ground.data }, { on := 5, ground := Ground.guard }], guard := some (5, true) } : Oper)) (v := undef) rfl (by kernel_rfl) (by kernel_rfl) (by kernel_rfl) (fun _ _ _ h => h) (Or.inr ⟨by rfl, rfl⟩) ?_
        (try simp only [Act.put]); (try simp only [List.setIfInBounds_toArray]); (try simp only [List.set_cons_succ]); (try simp only [List.set_cons_zero])
        refine wpAny_take (i := 17) (oi := ({ dst := some 23, op := Op.load 9 (Operand.tmp 22), type := 9, pos := _, after := #[{ on := 16, ground := Ground.data }, { on := 5, ground := Ground.guard }], guard := some (5, true) } : Oper)) (v := undef) rfl (by kernel_rfl) (by kernel_rfl) (by kernel_rfl) (fun _ _ _ h => h) (Or.inr ⟨by rfl, rfl⟩) ?_
        (try simp only [Act.put]); (try simp only [List.setIfInBounds_toArray]); (try simp only [List.set_cons_succ]); (try simp only [List.set_cons_zero])
        refine wpAny_take (i := 18) (oi := ({ dst := some 24, op := Op.move (Operand.tmp 1), type := 9, pos := _, after := #[{ on := 5, ground := Ground.guard }], guard := some (5, true) } : Oper)) (v := undef) rfl (by kernel_rfl) (by kernel_rfl) (by kernel_rfl) (fun _ _ _ h => h) (Or.inr ⟨by rfl, rfl⟩) ?_
        (try simp only [Act.put]); (try simp only [List.setIfInBounds_toArray]); (try simp only [List.set_cons_succ]); (try simp only [List.set_cons_zero])
        refine wpAny_take (i := 19) (oi := ({ dst := some 25, op := Op.binOp BinOp.neq 9 (Operand.tmp 23) (Operand.tmp 24) 9, type := 4, pos := _, after := #[{ on := 17, ground := Ground.data }, { on := 18, ground := Ground.data }, { on := 5, ground := Ground.guard }], guard := some (5, true) } : Oper)) (v := undef) rfl (by kernel_rfl) (by kernel_rfl) (by kernel_rfl) (fun _ _ _ h => h) (Or.inr ⟨by rfl, rfl⟩) ?_
        (try simp only [Act.put]); (try simp only [List.setIfInBounds_toArray]); (try simp only [List.set_cons_succ]); (try simp only [List.set_cons_zero])
        refine wpAny_take (i := 20) (oi := ({ dst := some 26, op := Op.pick (Operand.tmp 11) (Operand.tmp 25) (Operand.const (Value.bool false)), type := 4, pos := _, after := #[{ on := 5, ground := Ground.data }, { on := 19, ground := Ground.data }], guard := none } : Oper)) (v := .bool false) rfl (by kernel_rfl) (by kernel_rfl) (by kernel_rfl) (fun _ _ _ h => h) (Or.inl ⟨by rfl, fun _ => by first | rfl | kernel_rfl⟩) ?_
        (try simp only [Act.put]); (try simp only [List.setIfInBounds_toArray]); (try simp only [List.set_cons_succ]); (try simp only [List.set_cons_zero])
        refine wpAny_done (by kernel_rfl) ?_ _
        go_wp2
        go_ret
        have e0 : leaveN (fun id => impM (calOf ks id) but) L L.length = 0 := unhide HR
        rw [e0]
        exact ⟨by simp, (unhide HU).then (unhide HB2)⟩
      · go_simp
        refine hK _ _ ?_
        clear hK K
        (try simp only [Act.put]); (try simp only [List.setIfInBounds_toArray]); (try simp only [List.set_cons_succ]); (try simp only [List.set_cons_zero])
        refine wpAny_ready (rs := [2]) (by kernel_rfl) (by simp) ?_
        refine AllReady.cons rfl (fun K hK => ?_) AllReady.nil
        go_simp
        (go_at_call 59; refine ((unhide HT) _ (by repeat' (with_reducible (first | exact unhide HB2 | exact unhide HB0' | exact unhide HLE0 | exact unhide HLE2 | apply balloc | apply bdrew)))).mono ?_; rintro e w1 ⟨rfl, rfl⟩)
        refine hK _ _ ?_
        clear hK K
        (try simp only [Act.put]); (try simp only [List.setIfInBounds_toArray]); (try simp only [List.set_cons_succ]); (try simp only [List.set_cons_zero])
        refine wpAny_ready (rs := [4]) (by kernel_rfl) (by simp) ?_
        refine AllReady.cons rfl (fun K hK => ?_) AllReady.nil
        go_simp
        (go_at_call 90; refine ((unhide HO2) _ _ (by repeat' (with_reducible (first | exact unhide HB2 | exact unhide HB0' | exact unhide HLE0 | exact unhide HLE2 | apply balloc | apply bdrew))) (by first | exact tab_new wr impT _ | exact (tab_new wr impT _).below ((Below.refl _ _).drew) | exact (tab_new wr impT _).below (below_dn (Below.refl _ _) _) | exact tab_new (wr.drew) impT _ | exact (tab_new (wr.drew) impT _).below ((Below.refl _ _).drew) | exact tab_new (wr.drewN _) impT _ | exact (tab_new (wr.drewN _) impT _).below (below_dn (Below.refl _ _) _))).mono ?_; rintro e w2 ⟨rfl, hb⟩; have HB2 := hide hb; have HLE2 := hide hb.size; clear hb)
        refine hK _ _ ?_
        clear hK K
        (try simp only [Act.put]); (try simp only [List.setIfInBounds_toArray]); (try simp only [List.set_cons_succ]); (try simp only [List.set_cons_zero])
        refine wpAny_take (i := 5) (oi := ({ dst := some 11, op := Op.move (Operand.tmp 10), type := 4, pos := _, after := #[{ on := 4, ground := Ground.data }, { on := 4, ground := Ground.chain }], guard := none } : Oper)) (v := ?_) rfl (by kernel_rfl) (by kernel_rfl) (by kernel_rfl) (fun _ _ _ h => h) (Or.inl ⟨by rfl, ?_⟩) ?_
        rotate_left
        · first | (intro W0; go_simp; done) | (intro W0; go_simp; with_reducible rfl)
        (try simp only [Act.put]); (try simp only [List.setIfInBounds_toArray]); (try simp only [List.set_cons_succ]); (try simp only [List.set_cons_zero])
        refine wpAny_take (i := 6) (oi := ({ dst := some 12, op := Op.move (Operand.tmp 0), type := 32, pos := _, after := #[{ on := 5, ground := Ground.guard }], guard := some (5, true) } : Oper)) (v := undef) rfl (by kernel_rfl) (by kernel_rfl) (by kernel_rfl) (fun _ _ _ h => h) (Or.inr ⟨by rfl, rfl⟩) ?_
        (try simp only [Act.put]); (try simp only [List.setIfInBounds_toArray]); (try simp only [List.set_cons_succ]); (try simp only [List.set_cons_zero])
        refine wpAny_take (i := 7) (oi := ({ dst := some 13, op := Op.nilCheck (Operand.tmp 12), type := 0, pos := _, after := #[{ on := 6, ground := Ground.data }, { on := 5, ground := Ground.guard }], guard := some (5, true) } : Oper)) (v := undef) rfl (by kernel_rfl) (by kernel_rfl) (by kernel_rfl) (fun _ _ _ h => h) (Or.inr ⟨by rfl, rfl⟩) ?_
        (try simp only [Act.put]); (try simp only [List.setIfInBounds_toArray]); (try simp only [List.set_cons_succ]); (try simp only [List.set_cons_zero])
        refine wpAny_take (i := 8) (oi := ({ dst := some 14, op := Op.fieldAddr 85 (Operand.tmp 13) 0, type := 0, pos := _, after := #[{ on := 7, ground := Ground.data }, { on := 5, ground := Ground.guard }], guard := some (5, true) } : Oper)) (v := undef) rfl (by kernel_rfl) (by kernel_rfl) (by kernel_rfl) (fun _ _ _ h => h) (Or.inr ⟨by rfl, rfl⟩) ?_
        (try simp only [Act.put]); (try simp only [List.setIfInBounds_toArray]); (try simp only [List.set_cons_succ]); (try simp only [List.set_cons_zero])
        refine wpAny_take (i := 9) (oi := ({ dst := some 15, op := Op.load 25 (Operand.tmp 14), type := 25, pos := _, after := #[{ on := 8, ground := Ground.data }, { on := 5, ground := Ground.guard }], guard := some (5, true) } : Oper)) (v := undef) rfl (by kernel_rfl) (by kernel_rfl) (by kernel_rfl) (fun _ _ _ h => h) (Or.inr ⟨by rfl, rfl⟩) ?_
        (try simp only [Act.put]); (try simp only [List.setIfInBounds_toArray]); (try simp only [List.set_cons_succ]); (try simp only [List.set_cons_zero])
        refine wpAny_take (i := 10) (oi := ({ dst := some 16, op := Op.nilCheck (Operand.tmp 15), type := 0, pos := _, after := #[{ on := 9, ground := Ground.data }, { on := 5, ground := Ground.guard }], guard := some (5, true) } : Oper)) (v := undef) rfl (by kernel_rfl) (by kernel_rfl) (by kernel_rfl) (fun _ _ _ h => h) (Or.inr ⟨by rfl, rfl⟩) ?_
        (try simp only [Act.put]); (try simp only [List.setIfInBounds_toArray]); (try simp only [List.set_cons_succ]); (try simp only [List.set_cons_zero])
        refine wpAny_take (i := 11) (oi := ({ dst := some 17, op := Op.fieldAddr 132 (Operand.tmp 16) 0, type := 0, pos := _, after := #[{ on := 10, ground := Ground.data }, { on := 5, ground := Ground.guard }], guard := some (5, true) } : Oper)) (v := undef) rfl (by kernel_rfl) (by kernel_rfl) (by kernel_rfl) (fun _ _ _ h => h) (Or.inr ⟨by rfl, rfl⟩) ?_
        (try simp only [Act.put]); (try simp only [List.setIfInBounds_toArray]); (try simp only [List.set_cons_succ]); (try simp only [List.set_cons_zero])
        refine wpAny_take (i := 12) (oi := ({ dst := some 18, op := Op.load 130 (Operand.tmp 17), type := 130, pos := _, after := #[{ on := 11, ground := Ground.data }, { on := 5, ground := Ground.guard }], guard := some (5, true) } : Oper)) (v := undef) rfl (by kernel_rfl) (by kernel_rfl) (by kernel_rfl) (fun _ _ _ h => h) (Or.inr ⟨by rfl, rfl⟩) ?_
        (try simp only [Act.put]); (try simp only [List.setIfInBounds_toArray]); (try simp only [List.set_cons_succ]); (try simp only [List.set_cons_zero])
        refine wpAny_take (i := 13) (oi := ({ dst := some 19, op := Op.move (Operand.tmp 0), type := 32, pos := _, after := #[{ on := 5, ground := Ground.guard }], guard := some (5, true) } : Oper)) (v := undef) rfl (by kernel_rfl) (by kernel_rfl) (by kernel_rfl) (fun _ _ _ h => h) (Or.inr ⟨by rfl, rfl⟩) ?_
        (try simp only [Act.put]); (try simp only [List.setIfInBounds_toArray]); (try simp only [List.set_cons_succ]); (try simp only [List.set_cons_zero])
        refine wpAny_take (i := 14) (oi := ({ dst := some 20, op := Op.call { callee := Callee.value (Operand.func 59), args := #[Operand.tmp 19], argTypes := #[32] }, type := 3, pos := _, after := #[{ on := 13, ground := Ground.data }, { on := 5, ground := Ground.chain }, { on := 5, ground := Ground.guard }], guard := some (5, true) } : Oper)) (v := undef) rfl (by kernel_rfl) (by kernel_rfl) (by kernel_rfl) (fun _ _ _ h => h) (Or.inr ⟨by rfl, rfl⟩) ?_
        (try simp only [Act.put]); (try simp only [List.setIfInBounds_toArray]); (try simp only [List.set_cons_succ]); (try simp only [List.set_cons_zero])
        refine wpAny_take (i := 15) (oi := ({ dst := some 21, op := Op.indexAddr 130 (Operand.tmp 18) (Operand.tmp 20), type := 0, pos := _, after := #[{ on := 12, ground := Ground.data }, { on := 14, ground := Ground.data }, { on := 5, ground := Ground.guard }], guard := some (5, true) } : Oper)) (v := undef) rfl (by kernel_rfl) (by kernel_rfl) (by kernel_rfl) (fun _ _ _ h => h) (Or.inr ⟨by rfl, rfl⟩) ?_
        (try simp only [Act.put]); (try simp only [List.setIfInBounds_toArray]); (try simp only [List.set_cons_succ]); (try simp only [List.set_cons_zero])
        refine wpAny_take (i := 16) (oi := ({ dst := some 22, op := Op.fieldAddr 129 (Operand.tmp 21) 2, type := 0, pos := _, after := #[{ on := 15, ground := Ground.data }, { on := 5, ground := Ground.guard }], guard := some (5, true) } : Oper)) (v := undef) rfl (by kernel_rfl) (by kernel_rfl) (by kernel_rfl) (fun _ _ _ h => h) (Or.inr ⟨by rfl, rfl⟩) ?_
        (try simp only [Act.put]); (try simp only [List.setIfInBounds_toArray]); (try simp only [List.set_cons_succ]); (try simp only [List.set_cons_zero])
        refine wpAny_take (i := 17) (oi := ({ dst := some 23, op := Op.load 9 (Operand.tmp 22), type := 9, pos := _, after := #[{ on := 16, ground := Ground.data }, { on := 5, ground := Ground.guard }], guard := some (5, true) } : Oper)) (v := undef) rfl (by kernel_rfl) (by kernel_rfl) (by kernel_rfl) (fun _ _ _ h => h) (Or.inr ⟨by rfl, rfl⟩) ?_
        (try simp only [Act.put]); (try simp only [List.setIfInBounds_toArray]); (try simp only [List.set_cons_succ]); (try simp only [List.set_cons_zero])
        refine wpAny_take (i := 18) (oi := ({ dst := some 24, op := Op.move (Operand.tmp 1), type := 9, pos := _, after := #[{ on := 5, ground := Ground.guard }], guard := some (5, true) } : Oper)) (v := undef) rfl (by kernel_rfl) (by kernel_rfl) (by kernel_rfl) (fun _ _ _ h => h) (Or.inr ⟨by rfl, rfl⟩) ?_
        (try simp only [Act.put]); (try simp only [List.setIfInBounds_toArray]); (try simp only [List.set_cons_succ]); (try simp only [List.set_cons_zero])
        refine wpAny_take (i := 19) (oi := ({ dst := some 25, op := Op.binOp BinOp.neq 9 (Operand.tmp 23) (Operand.tmp 24) 9, type := 4, pos := _, after := #[{ on := 17, ground := Ground.data }, { on := 18, ground := Ground.data }, { on := 5, ground := Ground.guard }], guard := some (5, true) } : Oper)) (v := undef) rfl (by kernel_rfl) (by kernel_rfl) (by kernel_rfl) (fun _ _ _ h => h) (Or.inr ⟨by rfl, rfl⟩) ?_
        (try simp only [Act.put]); (try simp only [List.setIfInBounds_toArray]); (try simp only [List.set_cons_succ]); (try simp only [List.set_cons_zero])
        refine wpAny_take (i := 20) (oi := ({ dst := some 26, op := Op.pick (Operand.tmp 11) (Operand.tmp 25) (Operand.const (Value.bool false)), type := 4, pos := _, after := #[{ on := 5, ground := Ground.data }, { on := 19, ground := Ground.data }], guard := none } : Oper)) (v := .bool false) rfl (by kernel_rfl) (by kernel_rfl) (by kernel_rfl) (fun _ _ _ h => h) (Or.inl ⟨by rfl, fun _ => by first | rfl | kernel_rfl⟩) ?_
        (try simp only [Act.put]); (try simp only [List.setIfInBounds_toArray]); (try simp only [List.set_cons_succ]); (try simp only [List.set_cons_zero])
        refine wpAny_done (by kernel_rfl) ?_ _
        go_wp2
        go_ret
        have e0 : leaveN (fun id => impM (calOf ks id) but) L L.length = 0 := unhide HR
        rw [e0]
        exact ⟨by simp, (unhide HU).then (unhide HB2)⟩
    | succ n =>
      obtain ⟨x, hx⟩ : ∃ x, L[n]? = some x := ⟨_, List.getElem?_eq_getElem (by omega)⟩
      have hxm : x ∈ L := List.mem_of_getElem? hx
      obtain ⟨et, ep⟩ := top_take hx hgl
      have HO2 := hide ((unhide HO) x)
      rw [et] at HT
      have hcal := (unhide HG).cal hxm
      rw [hcal] at HO2
      have HPOP : Hid (∀ w1, Below wr.heap.size wr w1 → Calls Try.prog 40 #[.pointer (some ⟨bW, 0, none⟩)] w1 fun e w' => e = .returned (.int .i64 x) ∧ UpdW F w w' base bW bR (L.take n)) := hide (fun w1 hb => by
        refine (rPop_any (hst.below hb) (by rw [hlen]; have := unhide HLL; omega)).mono ?_
        rintro e w' ⟨rfl, hu2⟩
        rw [ep] at hu2
        refine ⟨by rw [et], ?_⟩
        obtain ⟨F2, g1, g2, g3⟩ := hu2
        refine ⟨F2, g1, (hmod.trans (Mod.of_below hb)).then g2 hfoot, fun k hk => ?_⟩
        rcases g3 k hk with e | e
        · exact hfoot k e
        · exact .inr (Nat.le_trans hmod.size (Nat.le_trans hb.size e)))
      have HRC : Hid (leaveN (fun id => impM (calOf ks id) but) L (n + 1) = if impM (calOf ks x) but then leaveN (fun id => impM (calOf ks id) but) L n else n + 1) := hide (by rw [leaveN, hx])
      obtain ⟨i, g, cap, ei, d0, dR, hlt, hm, d1, d2⟩ := hlv.look hcal
      subst ei
      have HCELLS : Hid (∀ w1, Below wr.heap.size wr w1 → w1.cell? ⟨bW, 0, none⟩ = some (.pointer (some ⟨bR, 0, none⟩)) ∧ w1.cell? ⟨bR, 0, none⟩ = some (.slice (some ⟨g, 0, none⟩) ks.length cap) ∧ w1.cell? ⟨g, i * 10 + 2, none⟩ = some (.string (calOf ks (i : Int)).name)) := hide (fun w1 hb => ⟨(hb.cell (p := ⟨bW, 0, none⟩) (lt_cell d0)).trans d0, (hb.cell (p := ⟨bR, 0, none⟩) (lt_cell dR)).trans dR, (hb.cell (p := ⟨g, i * 10 + 2, none⟩) (lt_cell d2)).trans d2⟩)
      have hltz : (i : Int) < (ks.length : Int) := by omega
      have hmz : (ks.length : Int) ≤ 32768 := by omega
      have hi0 : (0 : Int) ≤ (i : Int) := by omega
      have hnz : (n : Int) + 1 ≤ 32768 := by omega
      have hnl : ((n + 1 : Nat) : Int) ≤ (L.length : Int) := by omega
      have HIM : Hid (impM (calOf ks (i : Int)) but = (amongM (calOf ks (i : Int)) 0 impT && !((calOf ks (i : Int)).name.toList == but.toList))) := hide (by
        unfold impM namedM amongM
        cases (calOf ks (i : Int)).space == 0 <;> simp [hasT])
      generalize calOf ks (i : Int) = c at *
      generalize ks.length = kn at *
      obtain ⟨cs, cn⟩ := c
      simp only at HCELLS HIM
      clear hst hmod hfoot har hlen hx hxm et ep HO hlv hcal d0 dR d1 d2 hlt hm
      cases hr : amongM ⟨cs, cn⟩ 0 impT with
      | false =>
        rw [hr] at HIM HO2
        clear hr
        have HIF : Hid (impM ⟨cs, cn⟩ but = false) := hide (unhide HIM)
        rw [unhide HIF] at HRC
        go_wp2_with fail
        have HB0' := hide (Below.refl wr.heap.size wr)
        have HLE0 := hide (Nat.le_refl wr.heap.size)
        refine wp_region_any (by kernel_rfl) ?_
        try (change wpAny _ _ _ _ _ _ _ (World.drew _))
        refine wpAny_take (i := 0) (oi := ({ dst := some 6, op := Op.move (Operand.tmp 0), type := 32, pos := _, after := #[], guard := none } : Oper)) (v := ?_) rfl (by kernel_rfl) (by kernel_rfl) (by kernel_rfl) (fun _ _ _ h => h) (Or.inl ⟨by rfl, ?_⟩) ?_
        rotate_left
        · first | (intro W0; go_simp; done) | (intro W0; go_simp; with_reducible rfl)
        (try simp only [Act.put]); (try simp only [List.setIfInBounds_toArray]); (try simp only [List.set_cons_succ]); (try simp only [List.set_cons_zero])
        refine wpAny_take (i := 1) (oi := ({ dst := some 7, op := Op.move (Operand.tmp 0), type := 32, pos := _, after := #[], guard := none } : Oper)) (v := ?_) rfl (by kernel_rfl) (by kernel_rfl) (by kernel_rfl) (fun _ _ _ h => h) (Or.inl ⟨by rfl, ?_⟩) ?_
        rotate_left
        · first | (intro W0; go_simp; done) | (intro W0; go_simp; with_reducible rfl)
        (try simp only [Act.put]); (try simp only [List.setIfInBounds_toArray]); (try simp only [List.set_cons_succ]); (try simp only [List.set_cons_zero])
        refine wpAny_ready (rs := [2, 3]) (by kernel_rfl) (by simp) ?_
        refine AllReady.cons rfl (fun K hK => ?_) (AllReady.cons rfl (fun K hK => ?_) AllReady.nil)
        · go_simp
          (go_at_call 59; refine ((unhide HT) _ (by repeat' (with_reducible (first | exact unhide HB2 | exact unhide HB0' | exact unhide HLE0 | exact unhide HLE2 | apply balloc | apply bdrew)))).mono ?_; rintro e w1 ⟨rfl, rfl⟩)
          refine hK _ _ ?_
          clear hK K
          (try simp only [Act.put]); (try simp only [List.setIfInBounds_toArray]); (try simp only [List.set_cons_succ]); (try simp only [List.set_cons_zero])
          refine wpAny_ready (rs := [3]) (by kernel_rfl) (by simp) ?_
          refine AllReady.cons rfl (fun K hK => ?_) AllReady.nil
          go_simp
          refine hK _ _ ?_
          clear hK K
          (try simp only [Act.put]); (try simp only [List.setIfInBounds_toArray]); (try simp only [List.set_cons_succ]); (try simp only [List.set_cons_zero])
          refine wpAny_ready (rs := [4]) (by kernel_rfl) (by simp) ?_
          refine AllReady.cons rfl (fun K hK => ?_) AllReady.nil
          go_simp
          (go_at_call 90; refine ((unhide HO2) _ _ (by repeat' (with_reducible (first | exact unhide HB2 | exact unhide HB0' | exact unhide HLE0 | exact unhide HLE2 | apply balloc | apply bdrew))) (by first | exact tab_new wr impT _ | exact (tab_new wr impT _).below ((Below.refl _ _).drew) | exact (tab_new wr impT _).below (below_dn (Below.refl _ _) _) | exact tab_new (wr.drew) impT _ | exact (tab_new (wr.drew) impT _).below ((Below.refl _ _).drew) | exact tab_new (wr.drewN _) impT _ | exact (tab_new (wr.drewN _) impT _).below (below_dn (Below.refl _ _) _))).mono ?_; rintro e w2 ⟨rfl, hb⟩; have HB2 := hide hb; have HLE2 := hide hb.size; clear hb)
          refine hK _ _ ?_
          clear hK K
          (try simp only [Act.put]); (try simp only [List.setIfInBounds_toArray]); (try simp only [List.set_cons_succ]); (try simp only [List.set_cons_zero])
          refine wpAny_take (i := 5) (oi := ({ dst := some 11, op := Op.move (Operand.tmp 10), type := 4, pos := _, after := #[{ on := 4, ground := Ground.data }, { on := 4, ground := Ground.chain }], guard := none } : Oper)) (v := ?_) rfl (by kernel_rfl) (by kernel_rfl) (by kernel_rfl) (fun _ _ _ h => h) (Or.inl ⟨by rfl, ?_⟩) ?_
          rotate_left
          · first | (intro W0; go_simp; done) | (intro W0; go_simp; with_reducible rfl)
          (try simp only [Act.put]); (try simp only [List.setIfInBounds_toArray]); (try simp only [List.set_cons_succ]); (try simp only [List.set_cons_zero])
          refine wpAny_take (i := 6) (oi := ({ dst := some 12, op := Op.move (Operand.tmp 0), type := 32, pos := _, after := #[{ on := 5, ground := Ground.guard }], guard := some (5, true) } : Oper)) (v := undef) rfl (by kernel_rfl) (by kernel_rfl) (by kernel_rfl) (fun _ _ _ h => h) (Or.inr ⟨by rfl, rfl⟩) ?_
          (try simp only [Act.put]); (try simp only [List.setIfInBounds_toArray]); (try simp only [List.set_cons_succ]); (try simp only [List.set_cons_zero])
          refine wpAny_take (i := 7) (oi := ({ dst := some 13, op := Op.nilCheck (Operand.tmp 12), type := 0, pos := _, after := #[{ on := 6, ground := Ground.data }, { on := 5, ground := Ground.guard }], guard := some (5, true) } : Oper)) (v := undef) rfl (by kernel_rfl) (by kernel_rfl) (by kernel_rfl) (fun _ _ _ h => h) (Or.inr ⟨by rfl, rfl⟩) ?_
          (try simp only [Act.put]); (try simp only [List.setIfInBounds_toArray]); (try simp only [List.set_cons_succ]); (try simp only [List.set_cons_zero])
          refine wpAny_take (i := 8) (oi := ({ dst := some 14, op := Op.fieldAddr 85 (Operand.tmp 13) 0, type := 0, pos := _, after := #[{ on := 7, ground := Ground.data }, { on := 5, ground := Ground.guard }], guard := some (5, true) } : Oper)) (v := undef) rfl (by kernel_rfl) (by kernel_rfl) (by kernel_rfl) (fun _ _ _ h => h) (Or.inr ⟨by rfl, rfl⟩) ?_
          (try simp only [Act.put]); (try simp only [List.setIfInBounds_toArray]); (try simp only [List.set_cons_succ]); (try simp only [List.set_cons_zero])
          refine wpAny_take (i := 9) (oi := ({ dst := some 15, op := Op.load 25 (Operand.tmp 14), type := 25, pos := _, after := #[{ on := 8, ground := Ground.data }, { on := 5, ground := Ground.guard }], guard := some (5, true) } : Oper)) (v := undef) rfl (by kernel_rfl) (by kernel_rfl) (by kernel_rfl) (fun _ _ _ h => h) (Or.inr ⟨by rfl, rfl⟩) ?_
          (try simp only [Act.put]); (try simp only [List.setIfInBounds_toArray]); (try simp only [List.set_cons_succ]); (try simp only [List.set_cons_zero])
          refine wpAny_take (i := 10) (oi := ({ dst := some 16, op := Op.nilCheck (Operand.tmp 15), type := 0, pos := _, after := #[{ on := 9, ground := Ground.data }, { on := 5, ground := Ground.guard }], guard := some (5, true) } : Oper)) (v := undef) rfl (by kernel_rfl) (by kernel_rfl) (by kernel_rfl) (fun _ _ _ h => h) (Or.inr ⟨by rfl, rfl⟩) ?_
          (try simp only [Act.put]); (try simp only [List.setIfInBounds_toArray]); (try simp only [List.set_cons_succ]); (try simp only [List.set_cons_zero])
          refine wpAny_take (i := 11) (oi := ({ dst := some 17, op := Op.fieldAddr 132 (Operand.tmp 16) 0, type := 0, pos := _, after := #[{ on := 10, ground := Ground.data }, { on := 5, ground := Ground.guard }], guard := some (5, true) } : Oper)) (v := undef) rfl (by kernel_rfl) (by kernel_rfl) (by kernel_rfl) (fun _ _ _ h => h) (Or.inr ⟨by rfl, rfl⟩) ?_
          (try simp only [Act.put]); (try simp only [List.setIfInBounds_toArray]); (try simp only [List.set_cons_succ]); (try simp only [List.set_cons_zero])
          refine wpAny_take (i := 12) (oi := ({ dst := some 18, op := Op.load 130 (Operand.tmp 17), type := 130, pos := _, after := #[{ on := 11, ground := Ground.data }, { on := 5, ground := Ground.guard }], guard := some (5, true) } : Oper)) (v := undef) rfl (by kernel_rfl) (by kernel_rfl) (by kernel_rfl) (fun _ _ _ h => h) (Or.inr ⟨by rfl, rfl⟩) ?_
          (try simp only [Act.put]); (try simp only [List.setIfInBounds_toArray]); (try simp only [List.set_cons_succ]); (try simp only [List.set_cons_zero])
          refine wpAny_take (i := 13) (oi := ({ dst := some 19, op := Op.move (Operand.tmp 0), type := 32, pos := _, after := #[{ on := 5, ground := Ground.guard }], guard := some (5, true) } : Oper)) (v := undef) rfl (by kernel_rfl) (by kernel_rfl) (by kernel_rfl) (fun _ _ _ h => h) (Or.inr ⟨by rfl, rfl⟩) ?_
          (try simp only [Act.put]); (try simp only [List.setIfInBounds_toArray]); (try simp only [List.set_cons_succ]); (try simp only [List.set_cons_zero])
          refine wpAny_take (i := 14) (oi := ({ dst := some 20, op := Op.call { callee := Callee.value (Operand.func 59), args := #[Operand.tmp 19], argTypes := #[32] }, type := 3, pos := _, after := #[{ on := 13, ground := Ground.data }, { on := 5, ground := Ground.chain }, { on := 5, ground := Ground.guard }], guard := some (5, true) } : Oper)) (v := undef) rfl (by kernel_rfl) (by kernel_rfl) (by kernel_rfl) (fun _ _ _ h => h) (Or.inr ⟨by rfl, rfl⟩) ?_
          (try simp only [Act.put]); (try simp only [List.setIfInBounds_toArray]); (try simp only [List.set_cons_succ]); (try simp only [List.set_cons_zero])
          refine wpAny_take (i := 15) (oi := ({ dst := some 21, op := Op.indexAddr 130 (Operand.tmp 18) (Operand.tmp 20), type := 0, pos := _, after := #[{ on := 12, ground := Ground.data }, { on := 14, ground := Ground.data }, { on := 5, ground := Ground.guard }], guard := some (5, true) } : Oper)) (v := undef) rfl (by kernel_rfl) (by kernel_rfl) (by kernel_rfl) (fun _ _ _ h => h) (Or.inr ⟨by rfl, rfl⟩) ?_
          (try simp only [Act.put]); (try simp only [List.setIfInBounds_toArray]); (try simp only [List.set_cons_succ]); (try simp only [List.set_cons_zero])
          refine wpAny_take (i := 16) (oi := ({ dst := some 22, op := Op.fieldAddr 129 (Operand.tmp 21) 2, type := 0, pos := _, after := #[{ on := 15, ground := Ground.data }, { on := 5, ground := Ground.guard }], guard := some (5, true) } : Oper)) (v := undef) rfl (by kernel_rfl) (by kernel_rfl) (by kernel_rfl) (fun _ _ _ h => h) (Or.inr ⟨by rfl, rfl⟩) ?_
          (try simp only [Act.put]); (try simp only [List.setIfInBounds_toArray]); (try simp only [List.set_cons_succ]); (try simp only [List.set_cons_zero])
          refine wpAny_take (i := 17) (oi := ({ dst := some 23, op := Op.load 9 (Operand.tmp 22), type := 9, pos := _, after := #[{ on := 16, ground := Ground.data }, { on := 5, ground := Ground.guard }], guard := some (5, true) } : Oper)) (v := undef) rfl (by kernel_rfl) (by kernel_rfl) (by kernel_rfl) (fun _ _ _ h => h) (Or.inr ⟨by rfl, rfl⟩) ?_
          (try simp only [Act.put]); (try simp only [List.setIfInBounds_toArray]); (try simp only [List.set_cons_succ]); (try simp only [List.set_cons_zero])
          refine wpAny_take (i := 18) (oi := ({ dst := some 24, op := Op.move (Operand.tmp 1), type := 9, pos := _, after := #[{ on := 5, ground := Ground.guard }], guard := some (5, true) } : Oper)) (v := undef) rfl (by kernel_rfl) (by kernel_rfl) (by kernel_rfl) (fun _ _ _ h => h) (Or.inr ⟨by rfl, rfl⟩) ?_
          (try simp only [Act.put]); (try simp only [List.setIfInBounds_toArray]); (try simp only [List.set_cons_succ]); (try simp only [List.set_cons_zero])
          refine wpAny_take (i := 19) (oi := ({ dst := some 25, op := Op.binOp BinOp.neq 9 (Operand.tmp 23) (Operand.tmp 24) 9, type := 4, pos := _, after := #[{ on := 17, ground := Ground.data }, { on := 18, ground := Ground.data }, { on := 5, ground := Ground.guard }], guard := some (5, true) } : Oper)) (v := undef) rfl (by kernel_rfl) (by kernel_rfl) (by kernel_rfl) (fun _ _ _ h => h) (Or.inr ⟨by rfl, rfl⟩) ?_
          (try simp only [Act.put]); (try simp only [List.setIfInBounds_toArray]); (try simp only [List.set_cons_succ]); (try simp only [List.set_cons_zero])
          refine wpAny_take (i := 20) (oi := ({ dst := some 26, op := Op.pick (Operand.tmp 11) (Operand.tmp 25) (Operand.const (Value.bool false)), type := 4, pos := _, after := #[{ on := 5, ground := Ground.data }, { on := 19, ground := Ground.data }], guard := none } : Oper)) (v := .bool false) rfl (by kernel_rfl) (by kernel_rfl) (by kernel_rfl) (fun _ _ _ h => h) (Or.inl ⟨by rfl, fun _ => by first | rfl | kernel_rfl⟩) ?_
          (try simp only [Act.put]); (try simp only [List.setIfInBounds_toArray]); (try simp only [List.set_cons_succ]); (try simp only [List.set_cons_zero])
          refine wpAny_done (by kernel_rfl) ?_ _
          go_wp2
          go_ret
          have e0 : leaveN (fun id => impM (calOf ks id) but) L L.length = n + 1 := (unhide HR).trans (unhide HRC)
          rw [e0]
          exact ⟨by simp, (unhide HU).then (unhide HB2)⟩
        · go_simp
          refine hK _ _ ?_
          clear hK K
          (try simp only [Act.put]); (try simp only [List.setIfInBounds_toArray]); (try simp only [List.set_cons_succ]); (try simp only [List.set_cons_zero])
          refine wpAny_ready (rs := [2]) (by kernel_rfl) (by simp) ?_
          refine AllReady.cons rfl (fun K hK => ?_) AllReady.nil
          go_simp
          (go_at_call 59; refine ((unhide HT) _ (by repeat' (with_reducible (first | exact unhide HB2 | exact unhide HB0' | exact unhide HLE0 | exact unhide HLE2 | apply balloc | apply bdrew)))).mono ?_; rintro e w1 ⟨rfl, rfl⟩)
          refine hK _ _ ?_
          clear hK K
          (try simp only [Act.put]); (try simp only [List.setIfInBounds_toArray]); (try simp only [List.set_cons_succ]); (try simp only [List.set_cons_zero])
          refine wpAny_ready (rs := [4]) (by kernel_rfl) (by simp) ?_
          refine AllReady.cons rfl (fun K hK => ?_) AllReady.nil
          go_simp
          (go_at_call 90; refine ((unhide HO2) _ _ (by repeat' (with_reducible (first | exact unhide HB2 | exact unhide HB0' | exact unhide HLE0 | exact unhide HLE2 | apply balloc | apply bdrew))) (by first | exact tab_new wr impT _ | exact (tab_new wr impT _).below ((Below.refl _ _).drew) | exact (tab_new wr impT _).below (below_dn (Below.refl _ _) _) | exact tab_new (wr.drew) impT _ | exact (tab_new (wr.drew) impT _).below ((Below.refl _ _).drew) | exact tab_new (wr.drewN _) impT _ | exact (tab_new (wr.drewN _) impT _).below (below_dn (Below.refl _ _) _))).mono ?_; rintro e w2 ⟨rfl, hb⟩; have HB2 := hide hb; have HLE2 := hide hb.size; clear hb)
          refine hK _ _ ?_
          clear hK K
          (try simp only [Act.put]); (try simp only [List.setIfInBounds_toArray]); (try simp only [List.set_cons_succ]); (try simp only [List.set_cons_zero])
          refine wpAny_take (i := 5) (oi := ({ dst := some 11, op := Op.move (Operand.tmp 10), type := 4, pos := _, after := #[{ on := 4, ground := Ground.data }, { on := 4, ground := Ground.chain }], guard := none } : Oper)) (v := ?_) rfl (by kernel_rfl) (by kernel_rfl) (by kernel_rfl) (fun _ _ _ h => h) (Or.inl ⟨by rfl, ?_⟩) ?_
          rotate_left
          · first | (intro W0; go_simp; done) | (intro W0; go_simp; with_reducible rfl)
          (try simp only [Act.put]); (try simp only [List.setIfInBounds_toArray]); (try simp only [List.set_cons_succ]); (try simp only [List.set_cons_zero])
          refine wpAny_take (i := 6) (oi := ({ dst := some 12, op := Op.move (Operand.tmp 0), type := 32, pos := _, after := #[{ on := 5, ground := Ground.guard }], guard := some (5, true) } : Oper)) (v := undef) rfl (by kernel_rfl) (by kernel_rfl) (by kernel_rfl) (fun _ _ _ h => h) (Or.inr ⟨by rfl, rfl⟩) ?_
          (try simp only [Act.put]); (try simp only [List.setIfInBounds_toArray]); (try simp only [List.set_cons_succ]); (try simp only [List.set_cons_zero])
          refine wpAny_take (i := 7) (oi := ({ dst := some 13, op := Op.nilCheck (Operand.tmp 12), type := 0, pos := _, after := #[{ on := 6, ground := Ground.data }, { on := 5, ground := Ground.guard }], guard := some (5, true) } : Oper)) (v := undef) rfl (by kernel_rfl) (by kernel_rfl) (by kernel_rfl) (fun _ _ _ h => h) (Or.inr ⟨by rfl, rfl⟩) ?_
          (try simp only [Act.put]); (try simp only [List.setIfInBounds_toArray]); (try simp only [List.set_cons_succ]); (try simp only [List.set_cons_zero])
          refine wpAny_take (i := 8) (oi := ({ dst := some 14, op := Op.fieldAddr 85 (Operand.tmp 13) 0, type := 0, pos := _, after := #[{ on := 7, ground := Ground.data }, { on := 5, ground := Ground.guard }], guard := some (5, true) } : Oper)) (v := undef) rfl (by kernel_rfl) (by kernel_rfl) (by kernel_rfl) (fun _ _ _ h => h) (Or.inr ⟨by rfl, rfl⟩) ?_
          (try simp only [Act.put]); (try simp only [List.setIfInBounds_toArray]); (try simp only [List.set_cons_succ]); (try simp only [List.set_cons_zero])
          refine wpAny_take (i := 9) (oi := ({ dst := some 15, op := Op.load 25 (Operand.tmp 14), type := 25, pos := _, after := #[{ on := 8, ground := Ground.data }, { on := 5, ground := Ground.guard }], guard := some (5, true) } : Oper)) (v := undef) rfl (by kernel_rfl) (by kernel_rfl) (by kernel_rfl) (fun _ _ _ h => h) (Or.inr ⟨by rfl, rfl⟩) ?_
          (try simp only [Act.put]); (try simp only [List.setIfInBounds_toArray]); (try simp only [List.set_cons_succ]); (try simp only [List.set_cons_zero])
          refine wpAny_take (i := 10) (oi := ({ dst := some 16, op := Op.nilCheck (Operand.tmp 15), type := 0, pos := _, after := #[{ on := 9, ground := Ground.data }, { on := 5, ground := Ground.guard }], guard := some (5, true) } : Oper)) (v := undef) rfl (by kernel_rfl) (by kernel_rfl) (by kernel_rfl) (fun _ _ _ h => h) (Or.inr ⟨by rfl, rfl⟩) ?_
          (try simp only [Act.put]); (try simp only [List.setIfInBounds_toArray]); (try simp only [List.set_cons_succ]); (try simp only [List.set_cons_zero])
          refine wpAny_take (i := 11) (oi := ({ dst := some 17, op := Op.fieldAddr 132 (Operand.tmp 16) 0, type := 0, pos := _, after := #[{ on := 10, ground := Ground.data }, { on := 5, ground := Ground.guard }], guard := some (5, true) } : Oper)) (v := undef) rfl (by kernel_rfl) (by kernel_rfl) (by kernel_rfl) (fun _ _ _ h => h) (Or.inr ⟨by rfl, rfl⟩) ?_
          (try simp only [Act.put]); (try simp only [List.setIfInBounds_toArray]); (try simp only [List.set_cons_succ]); (try simp only [List.set_cons_zero])
          refine wpAny_take (i := 12) (oi := ({ dst := some 18, op := Op.load 130 (Operand.tmp 17), type := 130, pos := _, after := #[{ on := 11, ground := Ground.data }, { on := 5, ground := Ground.guard }], guard := some (5, true) } : Oper)) (v := undef) rfl (by kernel_rfl) (by kernel_rfl) (by kernel_rfl) (fun _ _ _ h => h) (Or.inr ⟨by rfl, rfl⟩) ?_
          (try simp only [Act.put]); (try simp only [List.setIfInBounds_toArray]); (try simp only [List.set_cons_succ]); (try simp only [List.set_cons_zero])
          refine wpAny_take (i := 13) (oi := ({ dst := some 19, op := Op.move (Operand.tmp 0), type := 32, pos := _, after := #[{ on := 5, ground := Ground.guard }], guard := some (5, true) } : Oper)) (v := undef) rfl (by kernel_rfl) (by kernel_rfl) (by kernel_rfl) (fun _ _ _ h => h) (Or.inr ⟨by rfl, rfl⟩) ?_
          (try simp only [Act.put]); (try simp only [List.setIfInBounds_toArray]); (try simp only [List.set_cons_succ]); (try simp only [List.set_cons_zero])
          refine wpAny_take (i := 14) (oi := ({ dst := some 20, op := Op.call { callee := Callee.value (Operand.func 59), args := #[Operand.tmp 19], argTypes := #[32] }, type := 3, pos := _, after := #[{ on := 13, ground := Ground.data }, { on := 5, ground := Ground.chain }, { on := 5, ground := Ground.guard }], guard := some (5, true) } : Oper)) (v := undef) rfl (by kernel_rfl) (by kernel_rfl) (by kernel_rfl) (fun _ _ _ h => h) (Or.inr ⟨by rfl, rfl⟩) ?_
          (try simp only [Act.put]); (try simp only [List.setIfInBounds_toArray]); (try simp only [List.set_cons_succ]); (try simp only [List.set_cons_zero])
          refine wpAny_take (i := 15) (oi := ({ dst := some 21, op := Op.indexAddr 130 (Operand.tmp 18) (Operand.tmp 20), type := 0, pos := _, after := #[{ on := 12, ground := Ground.data }, { on := 14, ground := Ground.data }, { on := 5, ground := Ground.guard }], guard := some (5, true) } : Oper)) (v := undef) rfl (by kernel_rfl) (by kernel_rfl) (by kernel_rfl) (fun _ _ _ h => h) (Or.inr ⟨by rfl, rfl⟩) ?_
          (try simp only [Act.put]); (try simp only [List.setIfInBounds_toArray]); (try simp only [List.set_cons_succ]); (try simp only [List.set_cons_zero])
          refine wpAny_take (i := 16) (oi := ({ dst := some 22, op := Op.fieldAddr 129 (Operand.tmp 21) 2, type := 0, pos := _, after := #[{ on := 15, ground := Ground.data }, { on := 5, ground := Ground.guard }], guard := some (5, true) } : Oper)) (v := undef) rfl (by kernel_rfl) (by kernel_rfl) (by kernel_rfl) (fun _ _ _ h => h) (Or.inr ⟨by rfl, rfl⟩) ?_
          (try simp only [Act.put]); (try simp only [List.setIfInBounds_toArray]); (try simp only [List.set_cons_succ]); (try simp only [List.set_cons_zero])
          refine wpAny_take (i := 17) (oi := ({ dst := some 23, op := Op.load 9 (Operand.tmp 22), type := 9, pos := _, after := #[{ on := 16, ground := Ground.data }, { on := 5, ground := Ground.guard }], guard := some (5, true) } : Oper)) (v := undef) rfl (by kernel_rfl) (by kernel_rfl) (by kernel_rfl) (fun _ _ _ h => h) (Or.inr ⟨by rfl, rfl⟩) ?_
          (try simp only [Act.put]); (try simp only [List.setIfInBounds_toArray]); (try simp only [List.set_cons_succ]); (try simp only [List.set_cons_zero])
          refine wpAny_take (i := 18) (oi := ({ dst := some 24, op := Op.move (Operand.tmp 1), type := 9, pos := _, after := #[{ on := 5, ground := Ground.guard }], guard := some (5, true) } : Oper)) (v := undef) rfl (by kernel_rfl) (by kernel_rfl) (by kernel_rfl) (fun _ _ _ h => h) (Or.inr ⟨by rfl, rfl⟩) ?_
          (try simp only [Act.put]); (try simp only [List.setIfInBounds_toArray]); (try simp only [List.set_cons_succ]); (try simp only [List.set_cons_zero])
          refine wpAny_take (i := 19) (oi := ({ dst := some 25, op := Op.binOp BinOp.neq 9 (Operand.tmp 23) (Operand.tmp 24) 9, type := 4, pos := _, after := #[{ on := 17, ground := Ground.data }, { on := 18, ground := Ground.data }, { on := 5, ground := Ground.guard }], guard := some (5, true) } : Oper)) (v := undef) rfl (by kernel_rfl) (by kernel_rfl) (by kernel_rfl) (fun _ _ _ h => h) (Or.inr ⟨by rfl, rfl⟩) ?_
          (try simp only [Act.put]); (try simp only [List.setIfInBounds_toArray]); (try simp only [List.set_cons_succ]); (try simp only [List.set_cons_zero])
          refine wpAny_take (i := 20) (oi := ({ dst := some 26, op := Op.pick (Operand.tmp 11) (Operand.tmp 25) (Operand.const (Value.bool false)), type := 4, pos := _, after := #[{ on := 5, ground := Ground.data }, { on := 19, ground := Ground.data }], guard := none } : Oper)) (v := .bool false) rfl (by kernel_rfl) (by kernel_rfl) (by kernel_rfl) (fun _ _ _ h => h) (Or.inl ⟨by rfl, fun _ => by first | rfl | kernel_rfl⟩) ?_
          (try simp only [Act.put]); (try simp only [List.setIfInBounds_toArray]); (try simp only [List.set_cons_succ]); (try simp only [List.set_cons_zero])
          refine wpAny_done (by kernel_rfl) ?_ _
          go_wp2
          go_ret
          have e0 : leaveN (fun id => impM (calOf ks id) but) L L.length = n + 1 := (unhide HR).trans (unhide HRC)
          rw [e0]
          exact ⟨by simp, (unhide HU).then (unhide HB2)⟩
      | true =>
        rw [hr] at HIM HO2
        clear hr
        cases hq : (cn.toList == but.toList) with
        | true =>
          have HIF : Hid (impM ⟨cs, cn⟩ but = false) := hide ((unhide HIM).trans (by rw [hq]; rfl))
          rw [unhide HIF] at HRC
          have hq2 : (cn.toList != but.toList) = false := by simp [bne, hq]
          go_wp2_with fail
          have HB0' := hide (Below.refl wr.heap.size wr)
          have HLE0 := hide (Nat.le_refl wr.heap.size)
          go_region_held3 (fun W' => W'.cell? ⟨bW, 0, none⟩ = some (.pointer (some ⟨bR, 0, none⟩)) ∧ W'.cell? ⟨bR, 0, none⟩ = some (.slice (some ⟨g, 0, none⟩) kn cap) ∧ W'.cell? ⟨g, i * 10 + 2, none⟩ = some (.string cn)) ((refine (unhide HCELLS) _ ?_; repeat' (with_reducible (first | exact unhide HB2 | exact unhide HB0' | exact unhide HLE0 | exact unhide HLE2 | apply balloc | apply bdrew)))) (first
        | (go_at_call 59; refine ((unhide HT) _ (by repeat' (with_reducible (first | exact unhide HB2 | exact unhide HB0' | exact unhide HLE0 | exact unhide HLE2 | apply balloc | apply bdrew)))).mono ?_; rintro e w1 ⟨rfl, rfl⟩)
        | (go_at_call 90; refine ((unhide HO2) _ _ (by repeat' (with_reducible (first | exact unhide HB2 | exact unhide HB0' | exact unhide HLE0 | exact unhide HLE2 | apply balloc | apply bdrew))) (by first | exact tab_new wr impT _ | exact (tab_new wr impT _).below ((Below.refl _ _).drew) | exact (tab_new wr impT _).below (below_dn (Below.refl _ _) _) | exact tab_new (wr.drew) impT _ | exact (tab_new (wr.drew) impT _).below ((Below.refl _ _).drew) | exact tab_new (wr.drewN _) impT _ | exact (tab_new (wr.drewN _) impT _).below (below_dn (Below.refl _ _) _))).mono ?_; rintro e w2 ⟨rfl, hb⟩; have HB2 := hide hb; have HLE2 := hide hb.size; clear hb))
          all_goals go_wp2
          all_goals go_ret
          all_goals have e0 : leaveN (fun id => impM (calOf ks id) but) L L.length = n + 1 := (unhide HR).trans (unhide HRC)
          all_goals rw [e0]
          all_goals exact ⟨by simp, (unhide HU).then (unhide HB2)⟩
        | false =>
          have HIF : Hid (impM ⟨cs, cn⟩ but = true) := hide ((unhide HIM).trans (by rw [hq]; rfl))
          rw [unhide HIF] at HRC
          have hq2 : (cn.toList != but.toList) = true := by simp [bne, hq]
          go_wp2_with fail
          have HB0' := hide (Below.refl wr.heap.size wr)
          have HLE0 := hide (Nat.le_refl wr.heap.size)
          go_region_held3 (fun W' => W'.cell? ⟨bW, 0, none⟩ = some (.pointer (some ⟨bR, 0, none⟩)) ∧ W'.cell? ⟨bR, 0, none⟩ = some (.slice (some ⟨g, 0, none⟩) kn cap) ∧ W'.cell? ⟨g, i * 10 + 2, none⟩ = some (.string cn)) ((refine (unhide HCELLS) _ ?_; repeat' (with_reducible (first | exact unhide HB2 | exact unhide HB0' | exact unhide HLE0 | exact unhide HLE2 | apply balloc | apply bdrew)))) (first
        | (go_at_call 59; refine ((unhide HT) _ (by repeat' (with_reducible (first | exact unhide HB2 | exact unhide HB0' | exact unhide HLE0 | exact unhide HLE2 | apply balloc | apply bdrew)))).mono ?_; rintro e w1 ⟨rfl, rfl⟩)
        | (go_at_call 90; refine ((unhide HO2) _ _ (by repeat' (with_reducible (first | exact unhide HB2 | exact unhide HB0' | exact unhide HLE0 | exact unhide HLE2 | apply balloc | apply bdrew))) (by first | exact tab_new wr impT _ | exact (tab_new wr impT _).below ((Below.refl _ _).drew) | exact (tab_new wr impT _).below (below_dn (Below.refl _ _) _) | exact tab_new (wr.drew) impT _ | exact (tab_new (wr.drew) impT _).below ((Below.refl _ _).drew) | exact tab_new (wr.drewN _) impT _ | exact (tab_new (wr.drewN _) impT _).below (below_dn (Below.refl _ _) _))).mono ?_; rintro e w2 ⟨rfl, hb⟩; have HB2 := hide hb; have HLE2 := hide hb.size; clear hb))
          all_goals go_wp2_with (go_at_call 40; refine ((unhide HPOP) _ (by first | exact unhide HB2 | exact (unhide HB2).drew | exact below_dn (unhide HB2) _ | exact Below.refl _ _ | exact below_new _ _ | exact (Below.refl _ _).drew | exact below_dn (Below.refl _ _) _ | exact (below_new _ _).drew | exact below_dn (below_new _ _) _ | exact ((below_dn (Below.refl _ _) _).alloc (below_dn (Below.refl _ _) _).size _))).mono ?_; rintro e w4 ⟨rfl, hu⟩; have HU4 := hide hu; clear hu)
          all_goals go_roundg n
          all_goals first | (refine ⟨by go_num, by omega, unhide HU4, (unhide HR).trans (unhide HRC)⟩) | omega
end
end Go.Proofs.Ytmllhebmaldgfaa

namespace Go.Proofs.Ytmllhebmaldgfaa
open Go.RowKit

section
variable {w wx : World} {bA bR bK bW : Nat} {ks : List Key} {L : List Int}
theorem env_rimplied {obs : List (Ob w.heap.size)} {i j : Nat} (h : Env w wx obs) (hi : obs[i]? = some (rfOb _ bR ks)) (hj : obs[j]? = some (rsOb _ bW bR L)) (hij : i ≠ j) (hg : Good ks L) (but : ByteArray) :
    Calls Try.prog 51 #[.pointer (some ⟨bW, 0, none⟩), .string but] wx fun e w' => e = .returned (.int .i64 ((L.length : Int) - (impN ks L but : Int))) ∧ Env w w' (obs.set j (rsOb _ bW bR (L.take (impN ks L but)))) := by
  obtain ⟨FA, F, h1, h2, h3, h4⟩ := h.twoR hi hj hij
  exact (rImplied_any h1 h2 h3 hg but).mono fun _ _ ⟨a, b⟩ => ⟨a, h4 _ _ b⟩

set_option maxRecDepth 100000 in
set_option maxHeartbeats 4000000 in
theorem play_8 (h : E4 w wx bA bR bK bW ks L L) (hg : Good ks L) (o : OpM) (ho : o.what = 8) : Calls Try.prog 12 #[.pointer (some ⟨bK, 0, none⟩), .pointer (some ⟨bW, 0, none⟩), .agg #[.int .i64 o.what, .int .i64 o.a, .int .i64 o.old, .int .i64 o.n, .string o.text]] wx fun e w' => e = .returned (.bool true) ∧ E4 w w' bA bR bK bW ks (L.take (impN ks L o.text)) (L.take (impN ks L o.text)) := by
  obtain ⟨wh, oa, oo, on, ot⟩ := o
  simp only at *
  subst ho
  have HV := hide (Env.boxed (show Env w wx _ from h) #[.int .i64 8, .int .i64 oa, .int .i64 oo, .int .i64 on, .string ot] 36)
  have HG := hide hg
  have hund : undef = Value.tuple #[] := rfl
  clear h hg
  go_enter Try.func12, Try.ntmps12
  go_wp2_with (first | (go_at_call 23; refine (env_implied (by first | exact unhide HV | exact (unhide HV).more (Below.refl _ _).drew | exact (unhide HV).more (below_dn (Below.refl _ _) _) | exact (unhide HV).more (Below.refl _ _).drew.drew) (i := 0) (j := 2) (bK := bK) (bA := bA) (ks := ks) (L := L) rfl rfl (by decide) (unhide HG) _).mono ?_; rintro e w2 ⟨rfl, he⟩; have hb := he.block (i := 4) rfl; obtain ⟨y1, y2, y3, y4⟩ := op_block hb; have HV := hide he; clear he hb) | (go_at_call 51; refine (env_rimplied (by first | exact unhide HV | exact (unhide HV).more (Below.refl _ _).drew | exact (unhide HV).more (below_dn (Below.refl _ _) _) | exact (unhide HV).more (Below.refl _ _).drew.drew) (i := 1) (j := 3) (bW := bW) (bR := bR) (ks := ks) (L := L) rfl rfl (by decide) (unhide HG) _).mono ?_; rintro e w3 ⟨rfl, he⟩; have hb := he.block (i := 4) rfl; obtain ⟨y1, y2, y3, y4⟩ := op_block hb; have HV := hide he; clear he hb))
  all_goals try (first | go_region_with (first | (go_at_call 23; refine (env_implied (by first | exact unhide HV | exact (unhide HV).more (Below.refl _ _).drew | exact (unhide HV).more (below_dn (Below.refl _ _) _) | exact (unhide HV).more (Below.refl _ _).drew.drew) (i := 0) (j := 2) (bK := bK) (bA := bA) (ks := ks) (L := L) rfl rfl (by decide) (unhide HG) _).mono ?_; rintro e w2 ⟨rfl, he⟩; have hb := he.block (i := 4) rfl; obtain ⟨y1, y2, y3, y4⟩ := op_block hb; have HV := hide he; clear he hb) | (go_at_call 51; refine (env_rimplied (by first | exact unhide HV | exact (unhide HV).more (Below.refl _ _).drew | exact (unhide HV).more (below_dn (Below.refl _ _) _) | exact (unhide HV).more (Below.refl _ _).drew.drew) (i := 1) (j := 3) (bW := bW) (bR := bR) (ks := ks) (L := L) rfl rfl (by decide) (unhide HG) _).mono ?_; rintro e w3 ⟨rfl, he⟩; have hb := he.block (i := 4) rfl; obtain ⟨y1, y2, y3, y4⟩ := op_block hb; have HV := hide he; clear he hb)) | fail)
  all_goals go_wp2
  all_goals go_ret
  all_goals exact ⟨by first | rfl | simp, (unhide HV).take 4⟩
end
end Go.Proofs.Ytmllhebmaldgfaa
