/-
  Package quirk: isNamed, isOld, the question that public answers, Good.
-/
import Derived.Test.YtnnegdcoihcanaaQt
import Derived.Laws.EntriesVeiled
namespace Go.Proofs.Ytnnegdcoihcanaa
open Go.RowKit Go.Lib

/-- A doctype in a block of its own. -/
structure TokAt (w : World) (B : Nat) (k : Int) (nm da sy : ByteArray) (hs : Int) (qk : Bool) (ch : Int) (se : Bool) (a : Option Addr) (len cap : Nat) : Prop where
  c0 : w.cell? ⟨B, 0, none⟩ = some (.int .i64 k)
  c1 : w.cell? ⟨B, 1, none⟩ = some (.string nm)
  c2 : w.cell? ⟨B, 2, none⟩ = some (.string da)
  c3 : w.cell? ⟨B, 3, none⟩ = some (.string sy)
  c4 : w.cell? ⟨B, 4, none⟩ = some (.int .i64 hs)
  c5 : w.cell? ⟨B, 5, none⟩ = some (.bool qk)
  c6 : w.cell? ⟨B, 6, none⟩ = some (.int .i32 ch)
  c7 : w.cell? ⟨B, 7, none⟩ = some (.bool se)
  c8 : w.cell? ⟨B, 8, none⟩ = some (.slice a len cap)
  lt : B < w.heap.size

section
variable (k : Int) (nm da sy : ByteArray) (hs : Int) (qk : Bool) (ch : Int) (se : Bool) (a : Option Addr) (len cap : Nat)

theorem tok_new (w : World) : TokAt (w.alloc (.cells #[.int .i64 k, .string nm, .string da, .string sy, .int .i64 hs, .bool qk, .int .i32 ch, .bool se, .slice a len cap] 24)) w.heap.size k nm da sy hs qk ch se a len cap := by
  refine ⟨?_, ?_, ?_, ?_, ?_, ?_, ?_, ?_, ?_, by simp⟩ <;> rw [cell_row _ w.heap.size _ _ _ _ (heap_alloc_new w _)] <;> rfl
theorem TokAt.below {w w' : World} {B : Nat} {k : Int} {nm da sy : ByteArray} {hs : Int} {qk : Bool} {ch : Int} {se : Bool} {a : Option Addr} {len cap : Nat} (h : TokAt w B k nm da sy hs qk ch se a len cap) (hb : Below w.heap.size w w') : TokAt w' B k nm da sy hs qk ch se a len cap :=
  ⟨(hb.cell (p := ⟨B, 0, none⟩) h.lt).trans h.c0, (hb.cell (p := ⟨B, 1, none⟩) h.lt).trans h.c1, (hb.cell (p := ⟨B, 2, none⟩) h.lt).trans h.c2, (hb.cell (p := ⟨B, 3, none⟩) h.lt).trans h.c3, (hb.cell (p := ⟨B, 4, none⟩) h.lt).trans h.c4, (hb.cell (p := ⟨B, 5, none⟩) h.lt).trans h.c5, (hb.cell (p := ⟨B, 6, none⟩) h.lt).trans h.c6, (hb.cell (p := ⟨B, 7, none⟩) h.lt).trans h.c7, (hb.cell (p := ⟨B, 8, none⟩) h.lt).trans h.c8, Nat.lt_of_lt_of_le h.lt hb.size⟩
theorem below_new (w : World) (o : Obj) : Below w.heap.size w (w.alloc o) := (Below.refl _ w).alloc (Nat.le_refl _) _

def html : ByteArray := ⟨#[104, 116, 109, 108]⟩
def namedM (nm : ByteArray) (hs : Int) : Bool := hasB hs 1 && sameM nm html

theorem isNamed_any (w : World) (hn : (nm.size : Int) ≤ 140737488355328) : Calls Try.prog 10 #[.agg #[.int .i64 k, .string nm, .string da, .string sy, .int .i64 hs, .bool qk, .int .i32 ch, .bool se, .slice a len cap]] w fun e w' => e = .returned (.bool (namedM nm hs)) ∧ Below w.heap.size w w' := by
  have HH := hide (has_any k nm da sy hs qk ch se a len cap 1)
  have HS := hide (fun W => same_any nm html W (by omega))
  have HT := hide (tok_new k nm da sy hs qk ch se a len cap w)
  have HB := hide (below_new w (.cells #[.int .i64 k, .string nm, .string da, .string sy, .int .i64 hs, .bool qk, .int .i32 ch, .bool se, .slice a len cap] 24))
  unfold namedM
  generalize hasB hs 1 = b at HH
  generalize sameM nm html = c at HS
  unfold html at HS
  clear hn
  cases b with
  | true =>
    go_enter Try.func10, Try.ntmps10
    go_wp2_with (first | (go_at_call 14; refine (unhide HH _).mono ?_; rintro e w1 ⟨rfl, hb1⟩; have HB1 := hide ((unhide HB).trans (hb1.mono (unhide HB).size)); have c1 := ((unhide HT).below hb1).c1; clear hb1) | (go_at_call 16; refine (unhide HS _).mono ?_; rintro e w2 ⟨rfl, q, rfl⟩))
    go_ret
    exact ⟨rfl, below_dn (unhide HB1) _⟩
  | false =>
    go_enter Try.func10, Try.ntmps10
    go_wp2_with (first | (go_at_call 14; refine (unhide HH _).mono ?_; rintro e w1 ⟨rfl, hb1⟩; have HB1 := hide ((unhide HB).trans (hb1.mono (unhide HB).size)); clear hb1))
    go_ret
    exact ⟨rfl, unhide HB1⟩

/-- The question in memory: the doctype, and the closure that asks for one beginning. -/
structure AskAt (w : World) (B C : Nat) (k : Int) (nm da sy : ByteArray) (hs : Int) (qk : Bool) (ch : Int) (se : Bool) (a : Option Addr) (len cap : Nat) : Prop where
  tok : TokAt w B k nm da sy hs qk ch se a len cap
  fn : w.cell? ⟨C, 0, none⟩ = some (.func (.func 17) #[] #[.pointer (some ⟨B, 0, none⟩)])
  lt : C < w.heap.size
theorem AskAt.below {w w' : World} {B C : Nat} {k : Int} {nm da sy : ByteArray} {hs : Int} {qk : Bool} {ch : Int} {se : Bool} {a : Option Addr} {len cap : Nat} (h : AskAt w B C k nm da sy hs qk ch se a len cap) (hb : Below w.heap.size w w') : AskAt w' B C k nm da sy hs qk ch se a len cap :=
  ⟨h.tok.below hb, (hb.cell (p := ⟨C, 0, none⟩) h.lt).trans h.fn, Nat.lt_of_lt_of_le h.lt hb.size⟩

set_option maxHeartbeats 1000000 in
theorem public_any (w : World) : Calls Try.prog 9 #[.agg #[.int .i64 k, .string nm, .string da, .string sy, .int .i64 hs, .bool qk, .int .i32 ch, .bool se, .slice a len cap]] w fun e w' => e = .returned (.func (.func 18) #[] #[.pointer (some ⟨w.heap.size, 0, none⟩), .pointer (some ⟨w.heap.size + 1, 0, none⟩)]) ∧ AskAt w' w.heap.size (w.heap.size + 1) k nm da sy hs qk ch se a len cap ∧ Below w.heap.size w w' := by
  go_enter Try.func9, Try.ntmps9
  go_wp2
  go_ret
  refine ⟨rfl, ⟨(tok_new _ _ _ _ _ _ _ _ _ _ _ w).below (below_new _ _), ?_, by simp⟩, (below_new w _).alloc (by simp) _⟩
  have e : w.heap.size + 1 = (w.alloc (Obj.cells #[.int .i64 k, .string nm, .string da, .string sy, .int .i64 hs, .bool qk, .int .i32 ch, .bool se, .slice a len cap] 24)).heap.size := by simp
  rw [e]
  rw [cell_row _ _ 0 _ _ _ (heap_alloc_new _ _)]
  rfl
end
end Go.Proofs.Ytnnegdcoihcanaa
