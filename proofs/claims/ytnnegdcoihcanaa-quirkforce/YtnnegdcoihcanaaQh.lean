/-
  QuirkForce: what forces quirks (plain); the walk.
-/
import Derived.Test.YtnnegdcoihcanaaQf
import Derived.Lib.SmallJoins
namespace Go.Proofs.Ytnnegdcoihcanaa
open Go.RowKit Go.Lib

theorem x_list (nm : ByteArray) : (⟨#[120]⟩ ++ nm).data.toList = 120 :: nm.data.toList := by
  rw [Joins.data_append]
  rfl
theorem x_size (nm : ByteArray) : ((⟨#[120]⟩ ++ nm).size : Int) = nm.size + 1 := by
  rw [← len_data, x_list, List.length_cons, len_data]
  omega
theorem mode_force (k : Int) (nm da sy : ByteArray) (hs : Int) : modeM k nm da sy hs true = 2 := by
  unfold modeM
  rw [Bool.or_true, Bool.true_or, Bool.true_or, Bool.true_or]
  rfl
theorem x_other (nm : ByteArray) : sameM (⟨#[120]⟩ ++ nm) html = false := by
  unfold sameM
  rw [x_list]
  apply decide_eq_false
  intro e
  have h : (low 120 :: nm.data.toList.map low).head? = (html.data.toList.map low).head? := congrArg List.head? e
  revert h
  exact (by decide +kernel : ¬ some (low 120) = (html.data.toList.map low).head?)
theorem mode_x (k : Int) (nm da sy : ByteArray) (hs : Int) (qk : Bool) : modeM k (⟨#[120]⟩ ++ nm) da sy hs qk = 2 := by
  unfold modeM namedM
  rw [x_other, Bool.and_false, Bool.not_false, Bool.or_true, Bool.true_or, Bool.true_or]
  rfl
theorem mode_3k (nm da sy : ByteArray) (hs : Int) (qk : Bool) : modeM 3 nm da sy hs qk = 2 := by
  unfold modeM
  rw [show ((3 : Int) != 0) = true from rfl, Bool.true_or, Bool.true_or, Bool.true_or, Bool.true_or]
  rfl
theorem good_x (k : Int) (nm sy : ByteArray) (hs : Int) : goodM k (⟨#[120]⟩ ++ nm) sy hs = false := by
  unfold goodM
  have e : ((⟨#[120]⟩ ++ nm).toList == [104, 116, 109, 108]) = false := by
    rw [ByteArray.toList_eq, x_list]
    rfl
  rw [e, Bool.and_false, Bool.false_and, Bool.false_and]
theorem good_3k (nm sy : ByteArray) (hs : Int) : goodM 3 nm sy hs = false := by
  unfold goodM
  rw [show (!((3 : Int) != 0)) = false from rfl, Bool.false_and, Bool.false_and, Bool.false_and, Bool.false_and]

/-- The doctype with another name, and the one that is a comment. -/
structure Three (w0 w : World) (b c : Nat) (k : Int) (nm da sy : ByteArray) (hs : Int) (qk : Bool) (ch : Int) (se : Bool) (a : Option Addr) (len cap : Nat) : Prop where
  v : TokAt w b k (⟨#[120]⟩ ++ nm) da sy hs qk ch se a len cap
  d : TokAt w c 3 nm da sy hs qk ch se a len cap
  bel : Below w0.heap.size w0 w
theorem Three.below {w0 w w' : World} {b c : Nat} {k : Int} {nm da sy : ByteArray} {hs : Int} {qk : Bool} {ch : Int} {se : Bool} {a : Option Addr} {len cap : Nat} (h : Three w0 w b c k nm da sy hs qk ch se a len cap) (hb : Below w.heap.size w w') : Three w0 w' b c k nm da sy hs qk ch se a len cap :=
  ⟨h.v.below hb, h.d.below hb, h.bel.trans (hb.mono h.bel.size)⟩
theorem three_new (w : World) (k : Int) (nm da sy : ByteArray) (hs : Int) (qk : Bool) (ch : Int) (se : Bool) (a : Option Addr) (len cap : Nat) : Three w ((((w.alloc (.cells #[.int .i64 k, .string nm, .string da, .string sy, .int .i64 hs, .bool qk, .int .i32 ch, .bool se, .slice a len cap] 24)).alloc (.cells #[.int .i64 k, .string nm, .string da, .string sy, .int .i64 hs, .bool true, .int .i32 ch, .bool se, .slice a len cap] 24)).alloc (.cells #[.int .i64 k, .string (⟨#[120]⟩ ++ nm), .string da, .string sy, .int .i64 hs, .bool qk, .int .i32 ch, .bool se, .slice a len cap] 24)).alloc (.cells #[.int .i64 3, .string nm, .string da, .string sy, .int .i64 hs, .bool qk, .int .i32 ch, .bool se, .slice a len cap] 24)) (w.heap.size + 1 + 1) (w.heap.size + 1 + 1 + 1) k nm da sy hs qk ch se a len cap := by
  have e2 : w.heap.size + 1 + 1 = ((w.alloc (Obj.cells #[.int .i64 k, .string nm, .string da, .string sy, .int .i64 hs, .bool qk, .int .i32 ch, .bool se, .slice a len cap] 24)).alloc (Obj.cells #[.int .i64 k, .string nm, .string da, .string sy, .int .i64 hs, .bool true, .int .i32 ch, .bool se, .slice a len cap] 24)).heap.size := by simp
  have e3 : w.heap.size + 1 + 1 + 1 = (((w.alloc (Obj.cells #[.int .i64 k, .string nm, .string da, .string sy, .int .i64 hs, .bool qk, .int .i32 ch, .bool se, .slice a len cap] 24)).alloc (Obj.cells #[.int .i64 k, .string nm, .string da, .string sy, .int .i64 hs, .bool true, .int .i32 ch, .bool se, .slice a len cap] 24)).alloc (Obj.cells #[.int .i64 k, .string (⟨#[120]⟩ ++ nm), .string da, .string sy, .int .i64 hs, .bool qk, .int .i32 ch, .bool se, .slice a len cap] 24)).heap.size := by simp
  refine ⟨?_, ?_, (((below_new w _).alloc (by simp) _).alloc (by simp; omega) _).alloc (by simp; omega) _⟩
  · rw [e2]
    exact (tok_new k (⟨#[120]⟩ ++ nm) da sy hs qk ch se a len cap _).below (below_new _ _)
  · rw [e3]
    exact tok_new 3 nm da sy hs qk ch se a len cap _

section
variable (k : Int) (nm da sy : ByteArray) (hs : Int) (qk : Bool) (ch : Int) (se : Bool) (a : Option Addr) (len cap : Nat)
set_option maxHeartbeats 4000000 in
theorem force_walk (w : World) (hn : (nm.size : Int) + 1 ≤ 140737488355328) (hd : (da.size : Int) ≤ 140737488355328) (hz : (sy.size : Int) ≤ 140737488355328) : Calls Try.prog 4 #[.agg #[.int .i64 k, .string nm, .string da, .string sy, .int .i64 hs, .bool qk, .int .i32 ch, .bool se, .slice a len cap]] w fun e w' => e = .returned (.bool true) ∧ Below w.heap.size w w' := by
  have HM1 := hide (fun W => mode_any k nm da sy hs true ch se a len cap W (by omega) hd hz)
  have HM2 := hide (fun W => mode_any k (⟨#[120]⟩ ++ nm) da sy hs qk ch se a len cap W (by rw [x_size]; exact hn) hd hz)
  have HM3 := hide (fun W => mode_any 3 nm da sy hs qk ch se a len cap W (by omega) hd hz)
  have HG2 := hide (fun W => good_any k (⟨#[120]⟩ ++ nm) da sy hs qk ch se a len cap W hz)
  have HG3 := hide (fun W => good_any 3 nm da sy hs qk ch se a len cap W hz)
  have HA := hide awake_any
  have HT := hide (three_new w k nm da sy hs qk ch se a len cap)
  rw [mode_force] at HM1
  rw [mode_x] at HM2
  rw [mode_3k] at HM3
  rw [good_x] at HG2
  rw [good_3k] at HG3
  clear hd hz
  go_enter Try.func4, Try.ntmps4
  go_wp2_with (first
    | (go_at_call 6; have _x := unhide H2; refine (unhide HM3 _).mono ?_; rintro e wH3 ⟨rfl, hb⟩; have H3 := hide ((unhide H2).below hb); obtain ⟨c0, c1, c2, c3, c4, c5, c6, c7, c8, c9⟩ := (unhide H3).v; obtain ⟨d0, d1, d2, d3, d4, d5, d6, d7, d8, d9⟩ := (unhide H3).d; clear hb c9 d9)
    | (go_at_call 6; have _x := unhide H1; refine (unhide HM2 _).mono ?_; rintro e wH2 ⟨rfl, hb⟩; have H2 := hide ((unhide H1).below hb); obtain ⟨c0, c1, c2, c3, c4, c5, c6, c7, c8, c9⟩ := (unhide H2).v; obtain ⟨d0, d1, d2, d3, d4, d5, d6, d7, d8, d9⟩ := (unhide H2).d; clear hb c9 d9)
    | (go_at_call 6; refine (unhide HM1 _).mono ?_; rintro e wH1 ⟨rfl, hb⟩; have H1 := hide ((unhide HT).below hb); obtain ⟨c0, c1, c2, c3, c4, c5, c6, c7, c8, c9⟩ := (unhide H1).v; obtain ⟨d0, d1, d2, d3, d4, d5, d6, d7, d8, d9⟩ := (unhide H1).d; clear hb c9 d9)
    | (go_at_call 7; have _x := unhide H4; refine (unhide HG3 _).mono ?_; rintro e wH5 ⟨rfl, hb⟩; have H5 := hide ((unhide H4).below hb); clear hb)
    | (go_at_call 7; refine (unhide HG2 _).mono ?_; rintro e wH4 ⟨rfl, hb⟩; have H4 := hide ((unhide H3).below hb); obtain ⟨c0, c1, c2, c3, c4, c5, c6, c7, c8, c9⟩ := (unhide H4).v; obtain ⟨d0, d1, d2, d3, d4, d5, d6, d7, d8, d9⟩ := (unhide H4).d; clear hb c9 d9)
    | (go_at_call 8; refine (unhide HA _).mono ?_; rintro e wH6 ⟨rfl, hb⟩; have H6 := hide ((unhide H5).below hb); clear hb))
  go_ret
  exact ⟨rfl, (unhide H6).bel⟩
end
end Go.Proofs.Ytnnegdcoihcanaa
