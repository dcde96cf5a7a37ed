import Derived.Test.YtmllhebmaldgfaaQRw
import Derived.Test.YtmllhebmaldgfaaQEa
/-
  The law's play: a call a theorem.
-/
namespace Go.Proofs.Ytmllhebmaldgfaa
open Go.RowKit

section
variable {w wx : World} {bA bR bK bW : Nat} {ks : List Key} {L : List Int}

set_option maxRecDepth 100000 in
set_option maxHeartbeats 4000000 in
theorem play_4 (h : E4 w wx bA bR bK bW ks L L) (hg : Good ks L) (o : OpM) (ho : o.what = 4) : Calls Try.prog 12 #[.pointer (some ⟨bK, 0, none⟩), .pointer (some ⟨bW, 0, none⟩), .agg #[.int .i64 o.what, .int .i64 o.a, .int .i64 o.old, .int .i64 o.n, .string o.text]] wx fun e w' => e = .returned (.bool true) ∧ E4 w w' bA bR bK bW ks (swapL ks L o.old o.a) (swapL ks L o.old o.a) := by
  obtain ⟨wh, oa, oo, on, ot⟩ := o
  simp only at *
  subst ho
  have HV := hide (Env.boxed (show Env w wx _ from h) #[.int .i64 4, .int .i64 oa, .int .i64 oo, .int .i64 on, .string ot] 36)
  have HG := hide hg
  have hund : undef = Value.tuple #[] := rfl
  clear h hg
  go_enter Try.func12, Try.ntmps12
  go_wp2_with (first | (go_at_call 45; refine (env_swap (by first | exact unhide HV | exact (unhide HV).more (Below.refl _ _).drew | exact (unhide HV).more (below_dn (Below.refl _ _) _) | exact (unhide HV).more (Below.refl _ _).drew.drew) (i := 0) (j := 2) (bK := bK) (bA := bA) (ks := ks) (L := L) rfl rfl (by decide) (unhide HG) _ _).mono ?_; rintro e w2 ⟨rfl, he⟩; have hb := he.block (i := 4) rfl; obtain ⟨y1, y2, y3, y4⟩ := op_block hb; have HV := hide he; clear he hb) | (go_at_call 46; refine (env_rswap (by first | exact unhide HV | exact (unhide HV).more (Below.refl _ _).drew | exact (unhide HV).more (below_dn (Below.refl _ _) _) | exact (unhide HV).more (Below.refl _ _).drew.drew) (i := 1) (j := 3) (bW := bW) (bR := bR) (ks := ks) (L := L) rfl rfl (by decide) (unhide HG) _ _).mono ?_; rintro e w3 ⟨rfl, he⟩; have hb := he.block (i := 4) rfl; obtain ⟨y1, y2, y3, y4⟩ := op_block hb; have HV := hide he; clear he hb))
  all_goals try (first | go_region_with (first | (go_at_call 45; refine (env_swap (by first | exact unhide HV | exact (unhide HV).more (Below.refl _ _).drew | exact (unhide HV).more (below_dn (Below.refl _ _) _) | exact (unhide HV).more (Below.refl _ _).drew.drew) (i := 0) (j := 2) (bK := bK) (bA := bA) (ks := ks) (L := L) rfl rfl (by decide) (unhide HG) _ _).mono ?_; rintro e w2 ⟨rfl, he⟩; have hb := he.block (i := 4) rfl; obtain ⟨y1, y2, y3, y4⟩ := op_block hb; have HV := hide he; clear he hb) | (go_at_call 46; refine (env_rswap (by first | exact unhide HV | exact (unhide HV).more (Below.refl _ _).drew | exact (unhide HV).more (below_dn (Below.refl _ _) _) | exact (unhide HV).more (Below.refl _ _).drew.drew) (i := 1) (j := 3) (bW := bW) (bR := bR) (ks := ks) (L := L) rfl rfl (by decide) (unhide HG) _ _).mono ?_; rintro e w3 ⟨rfl, he⟩; have hb := he.block (i := 4) rfl; obtain ⟨y1, y2, y3, y4⟩ := op_block hb; have HV := hide he; clear he hb)) | fail)
  all_goals go_wp2
  all_goals go_ret
  all_goals exact ⟨by first | rfl | simp, (unhide HV).take 4⟩
end
end Go.Proofs.Ytmllhebmaldgfaa
