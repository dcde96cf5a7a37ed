/-
  The law's task, its number.
-/
import Derived.Test.YtdfcdgjmjionbaaTk
namespace Go.Proofs.Ytdfcdgjmjionbaa
open Go.RowKit Go.Lib

def actJob (n : Int) : ActM := ⟨0, n, 0, 0, ⟨#[]⟩, ⟨#[]⟩⟩
def tkJob (n : Int) : Tk := ⟨2, [], [actJob n]⟩
/-- A task's number. -/
def numT (t : Tk) : Int := match t.acts with
  | [a] => a.a
  | _ => -1
theorem numT_job (n : Int) : numT (tkJob n) = n := rfl

theorem job_any (n : Int) (w : World) : Calls Try.prog 12 #[.int .i64 n] w fun e w' => ∃ x : TkV, e = .returned x.val ∧ Below w.heap.size w w' ∧ TkIn w' (fun k => w.heap.size ≤ k) (tkJob n) x := by
  go_enter Try.func12, Try.ntmps12
  go_wp2
  refine bodyPost_ret (v := TkV.val ⟨2, none, 0, 0, some ⟨w.heap.size + 1, 0, none⟩, 1, 1⟩) (tk_ret Try.results12 (b := w.heap.size) (x := ⟨2, none, 0, 0, some ⟨w.heap.size + 1, 0, none⟩, 1, 1⟩) ?_ _ rfl) rfl ⟨_, rfl, (below_new _ _).alloc (by simp) _, rfl, rfl, rfl, RowIn.nil _ _ _, ?_, by simp [tkJob], by simp [tkJob]⟩
  · rw [Below.heap_alloc _ _ _ (by simp)]
    exact heap_alloc_new w _
  · have h := heap_alloc_new (w.alloc (Obj.cells #[Value.int IntKind.i64 2, Value.slice none 0 0, Value.slice (some ⟨w.heap.size + 1, 0, none⟩) 1 1] 34)) (Obj.cells #[Value.int IntKind.i64 0, Value.int IntKind.i64 n, Value.int IntKind.i64 0, Value.int IntKind.i64 0, Value.string ⟨#[]⟩, Value.string ⟨#[]⟩] 66)
    simp only [World.size_alloc] at h
    intro j u hj
    refine ⟨w.heap.size + 1, 0, rfl, by show w.heap.size ≤ w.heap.size + 1; omega, ?_⟩
    rw [Nat.zero_add, cell_of_row _ _ j _ _ _ h]
    simpa [actRow, tkJob, actJob, ActM.cells] using hj
theorem number_any {F : Nat → Prop} (t : Tk) (x : TkV) (w : World) (h : TkIn w F t x) : Calls Try.prog 16 #[x.val] w fun e w' => e = .returned (.int .i64 (numT t)) ∧ Below w.heap.size w w' := by
  obtain ⟨a0, b1, b2, b3, c1, c2, c3⟩ := x
  obtain ⟨rfl, rfl, rfl, hbs, has, hbz, haz⟩ := h
  simp only [TkV.val, TkV.cells]
  obtain ⟨wh, bs, acts⟩ := t
  dsimp only at *
  clear hbs hbz
  by_cases h1 : acts.length = 1
  · obtain ⟨a, rfl⟩ : ∃ a, acts = [a] := by
      match acts, h1 with
      | [a], _ => exact ⟨a, rfl⟩
    obtain ⟨b, off, rfl, _, hc⟩ := has 1 (.int .i64 a.a) (by simp [actRow, ActM.cells])
    have hc2 : (w.alloc (.cells #[.int .i64 wh, .slice b1 bs.length b3, .slice (some ⟨b, off, none⟩) 1 c3] 34)).cell? ⟨b, off + 1, none⟩ = some (.int .i64 a.a) := ((below_new w _).cell (p := ⟨b, off + 1, none⟩) (World.block_lt_of_cell? w _ hc)).trans hc
    simp only [List.length_cons, List.length_nil, Nat.zero_add]
    clear has h1 hc haz
    go_enter Try.func16, Try.ntmps16
    go_wp2
    go_ret
    exact ⟨rfl, below_new _ _⟩
  · have HN : Hid (numT ⟨wh, bs, acts⟩ = -1) := hide (by
      unfold numT
      match acts, h1 with
      | [], _ => rfl
      | [a], h => simp at h
      | a :: b :: r, _ => rfl)
    generalize numT ⟨wh, bs, acts⟩ = nt at *
    have hlz : ¬ ((acts.length : Int) = 1) := by omega
    have hz2 : ((acts.length : Int) == 1) = false := by simpa using hlz
    have hl0 : (acts.length : Int) ≤ 140737488355328 := by omega
    generalize acts.length = n at *
    clear has h1 haz
    go_enter Try.func16, Try.ntmps16
    go_wp2
    go_ret
    exact ⟨by rw [unhide HN]; rfl, below_new _ _⟩
end Go.Proofs.Ytdfcdgjmjionbaa
