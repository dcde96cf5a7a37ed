import Derived.Test.YtmllhebmaldgfaaQRw
import Derived.Test.YtmllhebmaldgfaaQEa
/-
  The law's play: a call a theorem.
-/
namespace Go.Proofs.Ytmllhebmaldgfaa
open Go.RowKit

section
variable {w wx : World} {bA bR bK bW : Nat} {ks : List Key} {L : List Int}

set_option maxRecDepth 100000 in
set_option maxHeartbeats 4000000 in
theorem play_0 (h : E4 w wx bA bR bK bW ks L L) (hg : Good ks L) (o : OpM) (ho : o.what = 0) : Calls Try.prog 12 #[.pointer (some ⟨bK, 0, none⟩), .pointer (some ⟨bW, 0, none⟩), .agg #[.int .i64 o.what, .int .i64 o.a, .int .i64 o.old, .int .i64 o.n, .string o.text]] wx fun e w' => e = .returned (.bool true) ∧ E4 w w' bA bR bK bW ks (pushL ks L o.a) (pushL ks L o.a) := by
  obtain ⟨wh, oa, oo, on, ot⟩ := o
  simp only at *
  subst ho
  have HV := hide (Env.boxed (show Env w wx _ from h) #[.int .i64 0, .int .i64 oa, .int .i64 oo, .int .i64 on, .string ot] 36)
  have HG := hide hg
  have hund : undef = Value.tuple #[] := rfl
  clear h hg
  go_enter Try.func12, Try.ntmps12
  go_wp2_with (first | (go_at_call 19; refine (env_push (by first | exact unhide HV | exact (unhide HV).more (Below.refl _ _).drew | exact (unhide HV).more (below_dn (Below.refl _ _) _) | exact (unhide HV).more (Below.refl _ _).drew.drew) (i := 0) (j := 2) (bK := bK) (bA := bA) (ks := ks) (L := L) rfl rfl (by decide) (unhide HG) _).mono ?_; rintro e w2 ⟨rfl, he⟩; have hb := he.block (i := 4) rfl; obtain ⟨y1, y2, y3, y4⟩ := op_block hb; have HV := hide he; clear he hb) | (go_at_call 39; refine (env_rpush (by first | exact unhide HV | exact (unhide HV).more (Below.refl _ _).drew | exact (unhide HV).more (below_dn (Below.refl _ _) _) | exact (unhide HV).more (Below.refl _ _).drew.drew) (i := 1) (j := 3) (bW := bW) (bR := bR) (ks := ks) (L := L) rfl rfl (by decide) (unhide HG) _).mono ?_; rintro e w3 ⟨rfl, he⟩; have hb := he.block (i := 4) rfl; obtain ⟨y1, y2, y3, y4⟩ := op_block hb; have HV := hide he; clear he hb))
  all_goals try (first | go_region_with (first | (go_at_call 19; refine (env_push (by first | exact unhide HV | exact (unhide HV).more (Below.refl _ _).drew | exact (unhide HV).more (below_dn (Below.refl _ _) _) | exact (unhide HV).more (Below.refl _ _).drew.drew) (i := 0) (j := 2) (bK := bK) (bA := bA) (ks := ks) (L := L) rfl rfl (by decide) (unhide HG) _).mono ?_; rintro e w2 ⟨rfl, he⟩; have hb := he.block (i := 4) rfl; obtain ⟨y1, y2, y3, y4⟩ := op_block hb; have HV := hide he; clear he hb) | (go_at_call 39; refine (env_rpush (by first | exact unhide HV | exact (unhide HV).more (Below.refl _ _).drew | exact (unhide HV).more (below_dn (Below.refl _ _) _) | exact (unhide HV).more (Below.refl _ _).drew.drew) (i := 1) (j := 3) (bW := bW) (bR := bR) (ks := ks) (L := L) rfl rfl (by decide) (unhide HG) _).mono ?_; rintro e w3 ⟨rfl, he⟩; have hb := he.block (i := 4) rfl; obtain ⟨y1, y2, y3, y4⟩ := op_block hb; have HV := hide he; clear he hb)) | fail)
  all_goals go_wp2
  all_goals go_ret
  all_goals exact ⟨by first | rfl | simp, (unhide HV).take 4⟩

set_option maxRecDepth 100000 in
set_option maxHeartbeats 4000000 in
theorem play_1 (h : E4 w wx bA bR bK bW ks L L) (hg : Good ks L) (o : OpM) (ho : o.what = 1) : Calls Try.prog 12 #[.pointer (some ⟨bK, 0, none⟩), .pointer (some ⟨bW, 0, none⟩), .agg #[.int .i64 o.what, .int .i64 o.a, .int .i64 o.old, .int .i64 o.n, .string o.text]] wx fun e w' => e = .returned (.bool true) ∧ E4 w w' bA bR bK bW ks (popL L) (popL L) := by
  obtain ⟨wh, oa, oo, on, ot⟩ := o
  simp only at *
  subst ho
  have HV := hide (Env.boxed (show Env w wx _ from h) #[.int .i64 1, .int .i64 oa, .int .i64 oo, .int .i64 on, .string ot] 36)
  have HG := hide hg
  have hund : undef = Value.tuple #[] := rfl
  clear h hg
  go_enter Try.func12, Try.ntmps12
  go_wp2_with (first | (go_at_call 28; refine (env_pop (by first | exact unhide HV | exact (unhide HV).more (Below.refl _ _).drew | exact (unhide HV).more (below_dn (Below.refl _ _) _) | exact (unhide HV).more (Below.refl _ _).drew.drew) (i := 0) (j := 2) (bK := bK) (bA := bA) (ks := ks) (L := L) rfl rfl (by decide) (unhide HG) ).mono ?_; rintro e w2 ⟨rfl, he⟩; have hb := he.block (i := 4) rfl; obtain ⟨y1, y2, y3, y4⟩ := op_block hb; have HV := hide he; clear he hb) | (go_at_call 40; refine (env_rpop (by first | exact unhide HV | exact (unhide HV).more (Below.refl _ _).drew | exact (unhide HV).more (below_dn (Below.refl _ _) _) | exact (unhide HV).more (Below.refl _ _).drew.drew) (i := 1) (j := 3) (bW := bW) (bR := bR) (ks := ks) (L := L) rfl rfl (by decide) (unhide HG) ).mono ?_; rintro e w3 ⟨rfl, he⟩; have hb := he.block (i := 4) rfl; obtain ⟨y1, y2, y3, y4⟩ := op_block hb; have HV := hide he; clear he hb))
  all_goals try (first | go_region_with (first | (go_at_call 28; refine (env_pop (by first | exact unhide HV | exact (unhide HV).more (Below.refl _ _).drew | exact (unhide HV).more (below_dn (Below.refl _ _) _) | exact (unhide HV).more (Below.refl _ _).drew.drew) (i := 0) (j := 2) (bK := bK) (bA := bA) (ks := ks) (L := L) rfl rfl (by decide) (unhide HG) ).mono ?_; rintro e w2 ⟨rfl, he⟩; have hb := he.block (i := 4) rfl; obtain ⟨y1, y2, y3, y4⟩ := op_block hb; have HV := hide he; clear he hb) | (go_at_call 40; refine (env_rpop (by first | exact unhide HV | exact (unhide HV).more (Below.refl _ _).drew | exact (unhide HV).more (below_dn (Below.refl _ _) _) | exact (unhide HV).more (Below.refl _ _).drew.drew) (i := 1) (j := 3) (bW := bW) (bR := bR) (ks := ks) (L := L) rfl rfl (by decide) (unhide HG) ).mono ?_; rintro e w3 ⟨rfl, he⟩; have hb := he.block (i := 4) rfl; obtain ⟨y1, y2, y3, y4⟩ := op_block hb; have HV := hide he; clear he hb)) | fail)
  all_goals go_wp2
  all_goals go_ret
  all_goals exact ⟨by first | rfl | simp, (unhide HV).take 4⟩

set_option maxRecDepth 100000 in
set_option maxHeartbeats 4000000 in
theorem play_2 (h : E4 w wx bA bR bK bW ks L L) (hg : Good ks L) (o : OpM) (ho : o.what = 2) : Calls Try.prog 12 #[.pointer (some ⟨bK, 0, none⟩), .pointer (some ⟨bW, 0, none⟩), .agg #[.int .i64 o.what, .int .i64 o.a, .int .i64 o.old, .int .i64 o.n, .string o.text]] wx fun e w' => e = .returned (.bool true) ∧ E4 w w' bA bR bK bW ks (removeL L o.a) (removeL L o.a) := by
  obtain ⟨wh, oa, oo, on, ot⟩ := o
  simp only at *
  subst ho
  have HV := hide (Env.boxed (show Env w wx _ from h) #[.int .i64 2, .int .i64 oa, .int .i64 oo, .int .i64 on, .string ot] 36)
  have HG := hide hg
  have hund : undef = Value.tuple #[] := rfl
  clear h hg
  go_enter Try.func12, Try.ntmps12
  go_wp2_with (first | (go_at_call 41; refine (env_remove (by first | exact unhide HV | exact (unhide HV).more (Below.refl _ _).drew | exact (unhide HV).more (below_dn (Below.refl _ _) _) | exact (unhide HV).more (Below.refl _ _).drew.drew) (i := 0) (j := 2) (bK := bK) (bA := bA) (ks := ks) (L := L) rfl rfl (by decide) (unhide HG) _).mono ?_; rintro e w2 ⟨rfl, he⟩; have hb := he.block (i := 4) rfl; obtain ⟨y1, y2, y3, y4⟩ := op_block hb; have HV := hide he; clear he hb) | (go_at_call 42; refine (env_rremove (by first | exact unhide HV | exact (unhide HV).more (Below.refl _ _).drew | exact (unhide HV).more (below_dn (Below.refl _ _) _) | exact (unhide HV).more (Below.refl _ _).drew.drew) (i := 1) (j := 3) (bW := bW) (bR := bR) (ks := ks) (L := L) rfl rfl (by decide) (unhide HG) _).mono ?_; rintro e w3 ⟨rfl, he⟩; have hb := he.block (i := 4) rfl; obtain ⟨y1, y2, y3, y4⟩ := op_block hb; have HV := hide he; clear he hb))
  all_goals try (first | go_region_with (first | (go_at_call 41; refine (env_remove (by first | exact unhide HV | exact (unhide HV).more (Below.refl _ _).drew | exact (unhide HV).more (below_dn (Below.refl _ _) _) | exact (unhide HV).more (Below.refl _ _).drew.drew) (i := 0) (j := 2) (bK := bK) (bA := bA) (ks := ks) (L := L) rfl rfl (by decide) (unhide HG) _).mono ?_; rintro e w2 ⟨rfl, he⟩; have hb := he.block (i := 4) rfl; obtain ⟨y1, y2, y3, y4⟩ := op_block hb; have HV := hide he; clear he hb) | (go_at_call 42; refine (env_rremove (by first | exact unhide HV | exact (unhide HV).more (Below.refl _ _).drew | exact (unhide HV).more (below_dn (Below.refl _ _) _) | exact (unhide HV).more (Below.refl _ _).drew.drew) (i := 1) (j := 3) (bW := bW) (bR := bR) (ks := ks) (L := L) rfl rfl (by decide) (unhide HG) _).mono ?_; rintro e w3 ⟨rfl, he⟩; have hb := he.block (i := 4) rfl; obtain ⟨y1, y2, y3, y4⟩ := op_block hb; have HV := hide he; clear he hb)) | fail)
  all_goals go_wp2
  all_goals go_ret
  all_goals exact ⟨by first | rfl | simp, (unhide HV).take 4⟩
end
end Go.Proofs.Ytmllhebmaldgfaa
