/-
  Blocks that are written and blocks that stay; channels; a line of pointers: made, size, newLine.
-/
import Derived.Test.YtdfcdgjmjionbaaProg
import Derived.WalkKit
import Derived.WalkSpells
import Derived.ArgAppend
import Derived.OwnWalk
import Derived.Deep.AppendLies
import Derived.Deep.AppendSrc
import Derived.Deep.Upon
import Derived.Conc.LoneCalls
import Derived.Conc.LoneSelect
import Derived.Conc.LoneSelectN
import Derived.KernelRfl
import Derived.Laws.Rows
namespace Go.Proofs.Ytdfcdgjmjionbaa
open Go.RowKit

theorem hide {p : Prop} (h : p) : Hid p := h
theorem unhide {p : Prop} (h : Hid p) : p := h

/-- Only blocks of F were written. -/
structure Mod (F : Nat → Prop) (w w' : World) : Prop where
  os : w'.os = w.os
  tape : w'.tape = w.tape
  output : w'.output = w.output
  size : w.heap.size ≤ w'.heap.size
  block : ∀ k, k < w.heap.size → ¬ F k → w'.heap[k]? = w.heap[k]?
theorem Mod.refl (F : Nat → Prop) (w : World) : Mod F w w := ⟨rfl, rfl, rfl, Nat.le_refl _, fun _ _ _ => rfl⟩
theorem Mod.trans {F : Nat → Prop} {a b c : World} (h : Mod F a b) (k : Mod F b c) : Mod F a c :=
  ⟨k.os.trans h.os, k.tape.trans h.tape, k.output.trans h.output, Nat.le_trans h.size k.size, fun i hi hf => (k.block i (Nat.lt_of_lt_of_le hi h.size) hf).trans (h.block i hi hf)⟩
theorem Mod.then {F G : Nat → Prop} {a b c : World} (h : Mod F a b) (k : Mod G b c) (hG : ∀ i, G i → F i ∨ a.heap.size ≤ i) : Mod F a c :=
  ⟨k.os.trans h.os, k.tape.trans h.tape, k.output.trans h.output, Nat.le_trans h.size k.size, fun i hi hf => (k.block i (Nat.lt_of_lt_of_le hi h.size) (fun hg => (hG i hg).elim hf (fun h => by omega))).trans (h.block i hi hf)⟩
theorem Mod.of_below {F : Nat → Prop} {w w' : World} (h : Below w.heap.size w w') : Mod F w w' := ⟨h.os, h.tape, h.output, h.size, fun k hk _ => h.block k hk⟩
theorem Mod.setCell {F : Nat → Prop} (w : World) (p : Addr) (v : Value) (hF : F p.block) : Mod F w (w.setCell p v) :=
  ⟨rfl, rfl, rfl, by simp, fun k _ hf => Below.heap_setCell _ _ _ _ (fun e => hf (e ▸ hF))⟩
theorem Mod.mono {F G : Nat → Prop} {w w' : World} (h : Mod F w w') (hFG : ∀ k, k < w.heap.size → F k → G k) : Mod G w w' :=
  ⟨h.os, h.tape, h.output, h.size, fun k hk hg => h.block k hk (fun hf => hg (hFG k hk hf))⟩
theorem Mod.below {F : Nat → Prop} {B : Nat} {w w' : World} (h : Mod F w w') (hB : B ≤ w.heap.size) (hF : ∀ k, F k → B ≤ k) : Below B w w' :=
  ⟨h.os, h.tape, h.output, h.size, fun k hk => h.block k (by omega) (fun hf => by have := hF k hf; omega)⟩
theorem Mod.setChan {F : Nat → Prop} (w : World) (c cap : Nat) (buf : Array Value) (cl : Bool) (s r : Nat) (tm : Bool) (hF : F c) : Mod F w (w.setChan c cap buf cl s r tm) :=
  ⟨rfl, rfl, rfl, by simp [World.setChan], fun k _ hf => by
    have e : c ≠ k := fun e => hf (e ▸ hF)
    simp only [World.setChan]
    rw [Array.getElem?_setIfInBounds_ne e]⟩
theorem Mod.alloc {F : Nat → Prop} {a w : World} (h : Mod F a w) (o : Obj) : Mod F a (w.alloc o) := h.trans (Mod.of_below ((Below.refl _ w).alloc (Nat.le_refl _) o))
theorem Mod.drew {F : Nat → Prop} {a w : World} (h : Mod F a w) : Mod F a w.drew := h.trans (Mod.of_below (Below.refl _ w).drew)
theorem below_new (w : World) (o : Obj) : Below w.heap.size w (w.alloc o) := (Below.refl _ w).alloc (Nat.le_refl _) _

theorem bytes71 : ∃ i, Try.prog.info? 71 = some i ∧ i.bytes = 8 := by
  have h : (Try.prog.info? 71).map (·.bytes) = some 8 := by kernel_rfl
  obtain ⟨i, hi, hb⟩ := Option.map_eq_some_iff.1 h
  exact ⟨i, hi, hb⟩
theorem mkChan (w : World) : (Instr.makeChan 51 (.int .i64 4096)).run Try.prog w = .ok (.chan (some w.heap.size)) (w.alloc (.chan 4096 #[] false 0 0 false)) := by
  obtain ⟨i, hi, hb⟩ := bytes71
  simpa using Conc.run_makeChan (P := Try.prog) (w := w) Try.underlying51 hi .i64 4096 (by omega) (by rw [hb]; omega)

/-- A line over channel c. -/
def lineV (c : Nat) : Value := .agg #[.chan (some c)]
def lineZ : Value := .agg #[.chan none]

theorem results_cell {fn : Func} {p : Tmp} {ty : TypeId} (h : fn.results = #[.cell p ty]) (tmps : Array Value) (P : Program) (w : World) :
    (results fn tmps).run P w = ((asAddr (tmps.getD p undef)).run P w).andThen fun a w₁ => (loadVar ty a).run P w₁ := by
  simp only [results, h]
  simp [Sem.run_bind, Result.andThen]

theorem run_neq_chan_nil (w : World) (c : Option Nat) : (binOp .neq 51 (.chan c) (.chan none)).run Try.prog w = .ok (.bool c.isSome) w := by
  have h : ∀ d : Nat, (Op.equalIn (d + 1) 51 (.chan c) (.chan none)).run Try.prog w = .ok c.isNone w := fun d => by
    cases c <;> simp [Op.equalIn, run_underlying Try.underlying51]
  simp only [binOp]
  cases c <;> simp [Op.equal, Op.maxDepth, h 9999]

theorem lineMade_any (c : Option Nat) (w : World) : Calls Try.prog 30 #[.agg #[.chan c]] w fun e w' => e = .returned (.bool c.isSome) ∧ Below w.heap.size w w' := by
  have hq := fun W => run_neq_chan_nil W c
  go_enter Try.func30, Try.ntmps30
  go_wp2
  go_ret
  exact ⟨rfl, below_new _ _⟩
theorem size_any (c cap : Nat) (buf : Array Value) (s r : Nat) (w : World) (hc : w.heap[c]? = some (.chan cap buf false s r false)) : Calls Try.prog 29 #[lineV c] w fun e w' => e = .returned (.int .i64 buf.size) ∧ Below w.heap.size w w' := by
  have hl := fun ty => Conc.run_len_chan (P := Try.prog) 51 ty Try.underlying51 ((Below.heap_alloc w (.cells #[.chan (some c)] 53) c (lt_of_block hc)).trans hc)
  unfold lineV
  go_enter Try.func29, Try.ntmps29
  go_wp2
  go_ret
  exact ⟨rfl, below_new _ _⟩
theorem newLine_any (w : World) : Calls Try.prog 23 #[.int .i64 4096] w fun e w' => ∃ c, e = .returned (lineV c) ∧ Below w.heap.size w w' ∧ w.heap.size ≤ c ∧ w'.heap[c]? = some (.chan 4096 #[] false 0 0 false) := by
  have hm := mkChan
  go_enter Try.func23, Try.ntmps23
  go_wp2
  have hb : (w.alloc (.cells #[.chan (some (w.heap.size + 1))] 53)).heap[w.heap.size]? = some (.cells #[.chan (some (w.heap.size + 1))] 53 (0, 0)) := heap_alloc_new w _
  have hb2 := (Below.heap_alloc (w.alloc (.cells #[.chan (some (w.heap.size + 1))] 53)) (.chan 4096 #[] false 0 0 false) w.heap.size (lt_of_block hb)).trans hb
  refine bodyPost_ret (v := lineV (w.heap.size + 1)) ?_ rfl ⟨w.heap.size + 1, rfl, (below_new _ _).alloc (by simp) _, by omega, ?_⟩
  · rw [results_cell Try.results23]
    have hr := run_loadVar_row _ w.heap.size 53 53 _ (0, 0) _ hb2 Try.underlying53 rfl (by kernel_rfl)
    simp [asAddr, hr, lineV]
  · have := heap_alloc_new (w.alloc (.cells #[.chan (some (w.heap.size + 1))] 53)) (.chan 4096 #[] false 0 0 false)
    simpa only [World.size_alloc] using this
end Go.Proofs.Ytdfcdgjmjionbaa
