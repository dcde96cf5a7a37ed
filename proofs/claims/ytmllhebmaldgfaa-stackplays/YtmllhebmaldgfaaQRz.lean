import Derived.Test.YtmllhebmaldgfaaQRw
import Derived.Test.YtmllhebmaldgfaaQEa
/-
  The law's play: a call a theorem.
-/
namespace Go.Proofs.Ytmllhebmaldgfaa
open Go.RowKit

section
variable {w wx : World} {bA bR bK bW : Nat} {ks : List Key} {L : List Int}

set_option maxRecDepth 100000 in
set_option maxHeartbeats 4000000 in
theorem play_7 (h : E4 w wx bA bR bK bW ks L L) (hg : Good ks L) (o : OpM) (ho : o.what = 7) : Calls Try.prog 12 #[.pointer (some ⟨bK, 0, none⟩), .pointer (some ⟨bW, 0, none⟩), .agg #[.int .i64 o.what, .int .i64 o.a, .int .i64 o.old, .int .i64 o.n, .string o.text]] wx fun e w' => e = .returned (.bool true) ∧ E4 w w' bA bR bK bW ks (popToL ks L o.text) (popToL ks L o.text) := by
  obtain ⟨wh, oa, oo, on, ot⟩ := o
  simp only at *
  subst ho
  have HV := hide (Env.boxed (show Env w wx _ from h) #[.int .i64 7, .int .i64 oa, .int .i64 oo, .int .i64 on, .string ot] 36)
  have HG := hide hg
  have hund : undef = Value.tuple #[] := rfl
  clear h hg
  go_enter Try.func12, Try.ntmps12
  go_wp2_with (first | (go_at_call 21; refine (env_popTo (by first | exact unhide HV | exact (unhide HV).more (Below.refl _ _).drew | exact (unhide HV).more (below_dn (Below.refl _ _) _) | exact (unhide HV).more (Below.refl _ _).drew.drew) (i := 0) (j := 2) (bK := bK) (bA := bA) (ks := ks) (L := L) rfl rfl (by decide) (unhide HG) _).mono ?_; rintro e w2 ⟨rfl, he⟩; have hb := he.block (i := 4) rfl; obtain ⟨y1, y2, y3, y4⟩ := op_block hb; have HV := hide he; clear he hb) | (go_at_call 50; refine (env_rpopTo (by first | exact unhide HV | exact (unhide HV).more (Below.refl _ _).drew | exact (unhide HV).more (below_dn (Below.refl _ _) _) | exact (unhide HV).more (Below.refl _ _).drew.drew) (i := 1) (j := 3) (bW := bW) (bR := bR) (ks := ks) (L := L) rfl rfl (by decide) (unhide HG) _).mono ?_; rintro e w3 ⟨rfl, he⟩; have hb := he.block (i := 4) rfl; obtain ⟨y1, y2, y3, y4⟩ := op_block hb; have HV := hide he; clear he hb))
  all_goals try (first | go_region_with (first | (go_at_call 21; refine (env_popTo (by first | exact unhide HV | exact (unhide HV).more (Below.refl _ _).drew | exact (unhide HV).more (below_dn (Below.refl _ _) _) | exact (unhide HV).more (Below.refl _ _).drew.drew) (i := 0) (j := 2) (bK := bK) (bA := bA) (ks := ks) (L := L) rfl rfl (by decide) (unhide HG) _).mono ?_; rintro e w2 ⟨rfl, he⟩; have hb := he.block (i := 4) rfl; obtain ⟨y1, y2, y3, y4⟩ := op_block hb; have HV := hide he; clear he hb) | (go_at_call 50; refine (env_rpopTo (by first | exact unhide HV | exact (unhide HV).more (Below.refl _ _).drew | exact (unhide HV).more (below_dn (Below.refl _ _) _) | exact (unhide HV).more (Below.refl _ _).drew.drew) (i := 1) (j := 3) (bW := bW) (bR := bR) (ks := ks) (L := L) rfl rfl (by decide) (unhide HG) _).mono ?_; rintro e w3 ⟨rfl, he⟩; have hb := he.block (i := 4) rfl; obtain ⟨y1, y2, y3, y4⟩ := op_block hb; have HV := hide he; clear he hb)) | fail)
  all_goals go_wp2
  all_goals go_ret
  all_goals exact ⟨by first | rfl | simp, (unhide HV).take 4⟩

set_option maxRecDepth 100000 in
set_option maxHeartbeats 4000000 in
theorem play_9 (h : E4 w wx bA bR bK bW ks L L) (hg : Good ks L) (o : OpM) (ho : o.what = 9) : Calls Try.prog 12 #[.pointer (some ⟨bK, 0, none⟩), .pointer (some ⟨bW, 0, none⟩), .agg #[.int .i64 o.what, .int .i64 o.a, .int .i64 o.old, .int .i64 o.n, .string o.text]] wx fun e w' => e = .returned (.bool true) ∧ E4 w w' bA bR bK bW ks (L.take (thorN ks L)) (L.take (thorN ks L)) := by
  obtain ⟨wh, oa, oo, on, ot⟩ := o
  simp only at *
  subst ho
  have HV := hide (Env.boxed (show Env w wx _ from h) #[.int .i64 9, .int .i64 oa, .int .i64 oo, .int .i64 on, .string ot] 36)
  have HG := hide hg
  have hund : undef = Value.tuple #[] := rfl
  clear h hg
  go_enter Try.func12, Try.ntmps12
  go_wp2_with (first | (go_at_call 25; refine (env_thorough (by first | exact unhide HV | exact (unhide HV).more (Below.refl _ _).drew | exact (unhide HV).more (below_dn (Below.refl _ _) _) | exact (unhide HV).more (Below.refl _ _).drew.drew) (i := 0) (j := 2) (bK := bK) (bA := bA) (ks := ks) (L := L) rfl rfl (by decide) (unhide HG) ).mono ?_; rintro e w2 ⟨rfl, he⟩; have hb := he.block (i := 4) rfl; obtain ⟨y1, y2, y3, y4⟩ := op_block hb; have HV := hide he; clear he hb) | (go_at_call 52; refine (env_rthorough (by first | exact unhide HV | exact (unhide HV).more (Below.refl _ _).drew | exact (unhide HV).more (below_dn (Below.refl _ _) _) | exact (unhide HV).more (Below.refl _ _).drew.drew) (i := 1) (j := 3) (bW := bW) (bR := bR) (ks := ks) (L := L) rfl rfl (by decide) (unhide HG) ).mono ?_; rintro e w3 ⟨rfl, he⟩; have hb := he.block (i := 4) rfl; obtain ⟨y1, y2, y3, y4⟩ := op_block hb; have HV := hide he; clear he hb))
  all_goals try (first | go_region_with (first | (go_at_call 25; refine (env_thorough (by first | exact unhide HV | exact (unhide HV).more (Below.refl _ _).drew | exact (unhide HV).more (below_dn (Below.refl _ _) _) | exact (unhide HV).more (Below.refl _ _).drew.drew) (i := 0) (j := 2) (bK := bK) (bA := bA) (ks := ks) (L := L) rfl rfl (by decide) (unhide HG) ).mono ?_; rintro e w2 ⟨rfl, he⟩; have hb := he.block (i := 4) rfl; obtain ⟨y1, y2, y3, y4⟩ := op_block hb; have HV := hide he; clear he hb) | (go_at_call 52; refine (env_rthorough (by first | exact unhide HV | exact (unhide HV).more (Below.refl _ _).drew | exact (unhide HV).more (below_dn (Below.refl _ _) _) | exact (unhide HV).more (Below.refl _ _).drew.drew) (i := 1) (j := 3) (bW := bW) (bR := bR) (ks := ks) (L := L) rfl rfl (by decide) (unhide HG) ).mono ?_; rintro e w3 ⟨rfl, he⟩; have hb := he.block (i := 4) rfl; obtain ⟨y1, y2, y3, y4⟩ := op_block hb; have HV := hide he; clear he hb)) | fail)
  all_goals go_wp2
  all_goals go_ret
  all_goals exact ⟨by first | rfl | simp, (unhide HV).take 4⟩

set_option maxRecDepth 100000 in
set_option maxHeartbeats 4000000 in
theorem play_10 (h : E4 w wx bA bR bK bW ks L L) (o : OpM) (q0 : o.what ≠ 0) (q1 : o.what ≠ 1) (q2 : o.what ≠ 2) (q3 : o.what ≠ 3) (q4 : o.what ≠ 4) (q5 : o.what ≠ 5) (q6 : o.what ≠ 6) (q7 : o.what ≠ 7) (q8 : o.what ≠ 8) (q9 : o.what ≠ 9) (hsp : ∀ id c, elOf ks id = some c → c.space = 0 ∨ c.space = 1 ∨ c.space = 2) : Calls Try.prog 12 #[.pointer (some ⟨bK, 0, none⟩), .pointer (some ⟨bW, 0, none⟩), .agg #[.int .i64 o.what, .int .i64 o.a, .int .i64 o.old, .int .i64 o.n, .string o.text]] wx fun e w' => e = .returned (.bool true) ∧ E4 w w' bA bR bK bW ks (L) (L) := by
  obtain ⟨wh, oa, oo, on, ot⟩ := o
  simp only at *
  have HSP := hide hsp
  clear hsp
  have p0 : (wh == 0) = false := by simpa using q0
  have p1 : (wh == 1) = false := by simpa using q1
  have p2 : (wh == 2) = false := by simpa using q2
  have p3 : (wh == 3) = false := by simpa using q3
  have p4 : (wh == 4) = false := by simpa using q4
  have p5 : (wh == 5) = false := by simpa using q5
  have p6 : (wh == 6) = false := by simpa using q6
  have p7 : (wh == 7) = false := by simpa using q7
  have p8 : (wh == 8) = false := by simpa using q8
  have p9 : (wh == 9) = false := by simpa using q9
  have HV := hide (Env.boxed (show Env w wx _ from h) #[.int .i64 wh, .int .i64 oa, .int .i64 oo, .int .i64 on, .string ot] 36)
  have hund : undef = Value.tuple #[] := rfl
  clear h
  go_enter Try.func12, Try.ntmps12
  go_wp2_with (first | (go_at_call 53; refine (env_special (by first | exact unhide HV | exact (unhide HV).more (Below.refl _ _).drew | exact (unhide HV).more (below_dn (Below.refl _ _) _) | exact (unhide HV).more (Below.refl _ _).drew.drew) (i := 0) (j := 2) (bK := bK) (bA := bA) (ks := ks) (L := L) rfl rfl (by decide) _).mono ?_; rintro e w2 ⟨rfl, he⟩; have hb := he.block (i := 4) rfl; obtain ⟨y1, y2, y3, y4⟩ := op_block hb; have HV := hide he; clear he hb) | (go_at_call 54; refine (env_rspecial (by first | exact unhide HV | exact (unhide HV).more (Below.refl _ _).drew | exact (unhide HV).more (below_dn (Below.refl _ _) _) | exact (unhide HV).more (Below.refl _ _).drew.drew) (i := 1) (j := 3) (bW := bW) (bR := bR) (ks := ks) (L := L) rfl rfl (by decide) _ ((unhide HSP) _)).mono ?_; rintro e w3 ⟨rfl, he⟩; have hb := he.block (i := 4) rfl; obtain ⟨y1, y2, y3, y4⟩ := op_block hb; have HV := hide he; clear he hb))
  all_goals try (first | go_region_with (first | (go_at_call 53; refine (env_special (by first | exact unhide HV | exact (unhide HV).more (Below.refl _ _).drew | exact (unhide HV).more (below_dn (Below.refl _ _) _) | exact (unhide HV).more (Below.refl _ _).drew.drew) (i := 0) (j := 2) (bK := bK) (bA := bA) (ks := ks) (L := L) rfl rfl (by decide) _).mono ?_; rintro e w2 ⟨rfl, he⟩; have hb := he.block (i := 4) rfl; obtain ⟨y1, y2, y3, y4⟩ := op_block hb; have HV := hide he; clear he hb) | (go_at_call 54; refine (env_rspecial (by first | exact unhide HV | exact (unhide HV).more (Below.refl _ _).drew | exact (unhide HV).more (below_dn (Below.refl _ _) _) | exact (unhide HV).more (Below.refl _ _).drew.drew) (i := 1) (j := 3) (bW := bW) (bR := bR) (ks := ks) (L := L) rfl rfl (by decide) _ ((unhide HSP) _)).mono ?_; rintro e w3 ⟨rfl, he⟩; have hb := he.block (i := 4) rfl; obtain ⟨y1, y2, y3, y4⟩ := op_block hb; have HV := hide he; clear he hb)) | fail)
  all_goals go_wp2
  all_goals go_ret
  all_goals exact ⟨by first | rfl | simp, (unhide HV).take 4⟩
end
end Go.Proofs.Ytmllhebmaldgfaa
