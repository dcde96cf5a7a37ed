/-
  A line of pointers: add where there is room and where there is none, take where something waits: each a select of one case with a default.
-/
import Derived.Test.YtdfcdgjmjionbaaTa
namespace Go.Proofs.Ytdfcdgjmjionbaa
open Go.Conc Go.RowKit

/-- A task as a value: its kind, its bytes, its acts. -/
structure TkV where
  what : Int
  ba : Option Addr
  bl : Nat
  bc : Nat
  aa : Option Addr
  al : Nat
  ac : Nat
def TkV.cells (x : TkV) : Array Value := #[.int .i64 x.what, .slice x.ba x.bl x.bc, .slice x.aa x.al x.ac]
def TkV.val (x : TkV) : Value := .agg x.cells
def tkZ : TkV := ⟨0, none, 0, 0, none, 0, 0⟩

/-- The world behind add's boxes. -/
def addW (w : World) (c : Nat) (x : Array Value) : World := (w.alloc (.cells #[.chan (some c)] 53)).alloc (.cells x 34)
theorem addW_chan {w : World} {c k : Nat} {x : Array Value} {o : Obj} (h : w.heap[k]? = some o) : (addW w c x).heap[k]? = some o := by
  have := lt_of_block h
  unfold addW
  rw [Below.heap_alloc _ _ _ (by simp; omega), Below.heap_alloc _ _ _ this]
  exact h
theorem addW_size (w : World) (c : Nat) (x : Array Value) : (addW w c x).heap.size = w.heap.size + 2 := by simp [addW]
theorem addW_box (w : World) (c : Nat) (x : Array Value) : (addW w c x).heap[w.heap.size + 1]? = some (.cells x 34 (0, 0)) := by
  have := heap_alloc_new (w.alloc (.cells #[.chan (some c)] 53)) (.cells x 34)
  unfold addW
  simpa only [World.size_alloc] using this
theorem addW_below (w : World) (c : Nat) (x : Array Value) : Below w.heap.size w (addW w c x) := (below_new _ _).alloc (by simp) _
theorem setChan_other (w : World) (c k cap : Nat) (buf : Array Value) (closed : Bool) (s r : Nat) (tm : Bool) (h : c ≠ k) : (w.setChan c cap buf closed s r tm).heap[k]? = w.heap[k]? := by
  simp [World.setChan, Array.getElem?_setIfInBounds_ne h]

set_option maxRecDepth 100000 in
theorem add_room (c cap : Nat) (buf : Array Value) (s r : Nat) (x : TkV) (w : World) (hc : w.heap[c]? = some (.chan cap buf false s r false)) (hroom : buf.size < cap) :
    Calls Try.prog 25 #[lineV c, .agg x.cells] w fun e w' => e = .returned (.bool true) ∧ ∃ p, w.heap.size ≤ p ∧ w'.heap[p]? = some (.cells x.cells 34 (0, 0)) ∧ w'.heap[c]? = some (.chan cap (buf.push (.pointer (some ⟨p, 0, none⟩))) false (s + 1) r false) ∧ Mod (· = c) w w' := by
  obtain ⟨a0, b1, b2, b3, c1, c2, c3⟩ := x
  simp only [TkV.cells] at *
  refine calls_of_loneTo fun cs => ?_
  have e : Frame.enter Try.prog 25 #[lineV c, .agg #[.int .i64 a0, .slice b1 b2 b3, .slice c1 c2 c3]] .normal = (base 25).at ⟨#[lineV c, .agg #[.int .i64 a0, .slice b1 b2 b3, .slice c1 c2 c3], undef, undef, undef, undef, undef, undef, undef, undef], []⟩ [.code (Try.f25.body.getD .skip)] := by
    simp [Frame.enter, Frame.at, Try.func25, base, Try.f25]
  rw [e]
  unfold lineV
  refine LoneTo.goes (n := 13) ?_
  simp only [Try.f25, Option.getD_some]
  s_c stepG_seq
  s_reg
  s_op
  s_op
  s_op
  s_c stepG_region_end
  s_c stepG_seq
  s_reg
  s_op
  s_op
  s_c stepG_region_end
  s_c stepG_seq
  s_reg
  s_stop
  refine LoneTo.step (step_lone_select_send_room (c := c) (cap := cap) (buf := buf) (s := s) (r := r) (tm := false) (v := .pointer (some ⟨w.heap.size + 1, 0, none⟩)) (z' := .pointer none)
    (stepG_comm (cases := #[scase c (.pointer (some ⟨w.heap.size + 1, 0, none⟩)) (.pointer none)]) (blocking := false) (shape := .select) (w' := addW w c #[.int .i64 a0, .slice b1 b2 b3, .slice c1 c2 c3]) rfl rfl (by decide) (by simp [go_sem, execOp, scase, Act.eval, addW]))
    (addW_chan hc) hroom) ?_
  rw [Frame.finish_at]
  walk_nrm
  refine LoneTo.goes (n := 10) ?_
  s_op
  s_op
  s_c stepG_region_end
  s_c stepG_block
  s_cond true
  s_c stepG_seq
  s_reg
  s_op
  s_c stepG_region_end
  s_c stepG_ret'
  s_stop
  have hcl := lt_of_block hc
  refine LoneTo.done ⟨.returned (.bool true), _, rfl, ⟨rfl, w.heap.size + 1, by omega, ?_, ?_, ?_⟩, rfl, rfl, rfl, rfl, _, Try.func25, by simp [results, Try.f25, Frame.at]⟩
  · exact (setChan_other _ _ _ _ _ _ _ _ _ (by omega)).trans (addW_box w c _)
  · exact heap_setChan (addW w c #[.int .i64 a0, .slice b1 b2 b3, .slice c1 c2 c3]) c cap _ false (s + 1) r false (by rw [addW_size]; omega)
  · exact (Mod.of_below (addW_below w c _)).trans (Mod.setChan _ _ _ _ _ _ _ _ rfl)
set_option maxRecDepth 100000 in
theorem add_full (c cap : Nat) (buf : Array Value) (s r : Nat) (x : TkV) (w : World) (hc : w.heap[c]? = some (.chan cap buf false s r false)) (hfull : cap ≤ buf.size) :
    Calls Try.prog 25 #[lineV c, .agg x.cells] w fun e w' => e = .returned (.bool false) ∧ Below w.heap.size w w' := by
  obtain ⟨a0, b1, b2, b3, c1, c2, c3⟩ := x
  simp only [TkV.cells] at *
  refine calls_of_loneTo fun cs => ?_
  have e : Frame.enter Try.prog 25 #[lineV c, .agg #[.int .i64 a0, .slice b1 b2 b3, .slice c1 c2 c3]] .normal = (base 25).at ⟨#[lineV c, .agg #[.int .i64 a0, .slice b1 b2 b3, .slice c1 c2 c3], undef, undef, undef, undef, undef, undef, undef, undef], []⟩ [.code (Try.f25.body.getD .skip)] := by
    simp [Frame.enter, Frame.at, Try.func25, base, Try.f25]
  rw [e]
  unfold lineV
  refine LoneTo.goes (n := 13) ?_
  simp only [Try.f25, Option.getD_some]
  s_c stepG_seq
  s_reg
  s_op
  s_op
  s_op
  s_c stepG_region_end
  s_c stepG_seq
  s_reg
  s_op
  s_op
  s_c stepG_region_end
  s_c stepG_seq
  s_reg
  s_stop
  refine LoneTo.step (step_lone_select_send_full (c := c) (cap := cap) (buf := buf) (s := s) (r := r) (tm := false) (v := .pointer (some ⟨w.heap.size + 1, 0, none⟩)) (z' := .pointer none)
    (stepG_comm (cases := #[scase c (.pointer (some ⟨w.heap.size + 1, 0, none⟩)) (.pointer none)]) (blocking := false) (shape := .select) (w' := addW w c #[.int .i64 a0, .slice b1 b2 b3, .slice c1 c2 c3]) rfl rfl (by decide) (by simp [go_sem, execOp, scase, Act.eval, addW]))
    (addW_chan hc) hfull) ?_
  rw [Frame.finish_at]
  walk_nrm
  refine LoneTo.goes (n := 10) ?_
  s_op
  s_op
  s_c stepG_region_end
  s_c stepG_block
  s_cond false
  s_c stepG_seq
  s_reg
  s_op
  s_c stepG_region_end
  s_c stepG_ret'
  s_stop
  refine LoneTo.done ⟨.returned (.bool false), _, rfl, ⟨rfl, addW_below w c _⟩, rfl, rfl, rfl, rfl, _, Try.func25, by simp [results, Try.f25, Frame.at]⟩

/-- The world behind take's box and its result's. -/
def takeW (w : World) (c : Nat) (z : Array Value) : World := (w.alloc (.cells #[.chan (some c)] 53)).alloc (.cells z 34)
set_option maxRecDepth 100000 in
theorem take_some (c cap : Nat) (p : Nat) (buf : Array Value) (s r : Nat) (x : TkV) (w : World) (hc : w.heap[c]? = some (.chan cap (#[.pointer (some ⟨p, 0, none⟩)] ++ buf) false s r false)) (hp : w.heap[p]? = some (.cells x.cells 34 (0, 0))) :
    Calls Try.prog 28 #[lineV c] w fun e w' => e = .returned (.tuple #[.agg x.cells, .bool true]) ∧ w'.heap[c]? = some (.chan cap buf false s (r + 1) false) ∧ Mod (· = c) w w' := by
  obtain ⟨a0, b1, b2, b3, c1, c2, c3⟩ := x
  simp only [TkV.cells] at *
  refine calls_of_loneTo fun cs => ?_
  have e : Frame.enter Try.prog 28 #[lineV c] .normal = (base 28).at ⟨#[lineV c, undef, undef, undef, undef, undef, undef, undef, undef, undef, undef, undef, undef, undef, undef, undef], []⟩ [.code (Try.f28.body.getD .skip)] := by
    simp [Frame.enter, Frame.at, Try.func28, base, Try.f28]
  rw [e]
  unfold lineV
  refine LoneTo.goes (n := 13) ?_
  simp only [Try.f28, Option.getD_some]
  s_c stepG_seq
  s_reg
  s_op
  s_op
  s_op
  s_c stepG_region_end
  s_c stepG_seq
  s_reg
  s_op
  s_op
  s_c stepG_region_end
  s_c stepG_seq
  s_reg
  s_stop
  have hex : (#[Value.pointer (some ⟨p, 0, none⟩)] ++ buf).extract 1 (#[Value.pointer (some ⟨p, 0, none⟩)] ++ buf).size = buf := by simp [Array.extract_append]
  have hget : (#[Value.pointer (some ⟨p, 0, none⟩)] ++ buf).getD 0 undef = .pointer (some ⟨p, 0, none⟩) := by simp [Array.getD]
  refine LoneTo.step (step_lone_select_recv_buf (c := c) (cap := cap) (buf := #[.pointer (some ⟨p, 0, none⟩)] ++ buf) (closed := false) (s := s) (r := r) (tm := false) (z := .pointer none)
    (stepG_comm (cases := #[rcase c (.pointer none)]) (blocking := false) (shape := .select) (w' := takeW w c #[.int .i64 0, .slice none 0 0, .slice none 0 0]) rfl rfl (by decide) (by simp [go_sem, execOp, rcase, Act.eval, takeW]))
    (addW_chan hc) (by simp; omega)) ?_
  rw [hex, hget]
  have hlp := lt_of_block hp
  have hlc := lt_of_block hc
  have hpc : c ≠ p := by rintro rfl; rw [hp] at hc; cases hc
  have g1 := heap_setChan (takeW w c #[.int .i64 0, .slice none 0 0, .slice none 0 0]) c cap buf false s (r + 1) false (by unfold takeW; simp; omega)
  have g2 : ((takeW w c #[.int .i64 0, .slice none 0 0, .slice none 0 0]).setChan c cap buf false s (r + 1) false).heap[p]? = some (.cells #[.int .i64 a0, .slice b1 b2 b3, .slice c1 c2 c3] 34 (0, 0)) := (setChan_other _ _ _ _ _ _ _ _ _ hpc).trans (addW_chan hp)
  have g3 : ((takeW w c #[.int .i64 0, .slice none 0 0, .slice none 0 0]).setChan c cap buf false s (r + 1) false).heap[w.heap.size + 1]? = some (.cells #[.int .i64 0, .slice none 0 0, .slice none 0 0] 34 (0, 0)) := (setChan_other _ _ _ _ _ _ _ _ _ (by omega)).trans (addW_box w c _)
  have g4 : Mod (· = c) w ((takeW w c #[.int .i64 0, .slice none 0 0, .slice none 0 0]).setChan c cap buf false s (r + 1) false) := (Mod.of_below (addW_below w c _)).trans (Mod.setChan _ _ _ _ _ _ _ _ rfl)
  generalize (takeW w c #[.int .i64 0, .slice none 0 0, .slice none 0 0]).setChan c cap buf false s (r + 1) false = W at g1 g2 g3 g4 ⊢
  have k0 := cell_of_row W p 0 _ _ _ g2
  have k1 := cell_of_row W p 1 _ _ _ g2
  have k2 := cell_of_row W p 2 _ _ _ g2
  have l0 := cell_of_row W (w.heap.size + 1) 0 _ _ _ g3
  have l1 := cell_of_row W (w.heap.size + 1) 1 _ _ _ g3
  have l2 := cell_of_row W (w.heap.size + 1) 2 _ _ _ g3
  have hf : ∀ j, W.frozen? ⟨w.heap.size + 1, j, none⟩ = false := fun j => by simp [World.frozen?, g3]
  simp only [List.getElem?_toArray, List.getElem?_cons_zero, List.getElem?_cons_succ] at k0 k1 k2 l0 l1 l2
  rw [Frame.finish_at]
  walk_nrm
  refine LoneTo.goes (n := 19) ?_
  s_op
  s_op
  s_c stepG_region_end
  s_c stepG_block
  s_cond true
  s_c stepG_seq
  s_reg
  s_op
  s_op
  s_c stepG_region_end
  s_c stepG_seq
  s_reg
  s_op
  s_op
  s_op
  s_op
  s_op
  s_c stepG_region_end
  s_c stepG_ret'
  s_stop
  have h1 := heap_setCell_same _ (w.heap.size + 1) 0 _ _ (.int .i64 a0) g3
  have h2 := heap_setCell_same _ (w.heap.size + 1) 1 _ _ (.slice b1 b2 b3) h1
  have h3 := heap_setCell_same _ (w.heap.size + 1) 2 _ _ (.slice c1 c2 c3) h2
  have hm := ((g4.then (Mod.setCell (F := (· = w.heap.size + 1)) W ⟨w.heap.size + 1, 0, none⟩ (.int .i64 a0) rfl) (fun i hi => .inr (by omega))).then
    (Mod.setCell (F := (· = w.heap.size + 1)) _ ⟨w.heap.size + 1, 1, none⟩ (.slice b1 b2 b3) rfl) (fun i hi => .inr (by omega))).then
    (Mod.setCell (F := (· = w.heap.size + 1)) _ ⟨w.heap.size + 1, 2, none⟩ (.slice c1 c2 c3) rfl) (fun i hi => .inr (by omega))
  have hc3 : ∀ (v : Value) (j : Nat) (V : World), (V.setCell ⟨w.heap.size + 1, j, none⟩ v).heap[c]? = V.heap[c]? := fun v j V => Below.heap_setCell _ _ _ _ (by show c ≠ w.heap.size + 1; omega)
  have hr := run_loadVar_row _ (w.heap.size + 1) 34 34 _ (0, 0) _ h3 Try.underlying34 rfl (by kernel_rfl)
  refine LoneTo.done ⟨.returned (.tuple #[.agg #[.int .i64 a0, .slice b1 b2 b3, .slice c1 c2 c3], .bool true]), _, rfl, ⟨rfl, ?_, hm⟩, rfl, rfl, rfl, rfl, _, Try.func28, ?_⟩
  · rw [hc3, hc3, hc3]; exact g1
  · rw [results_cell_tmp (p := 2) (u := 3) (ty := 34) Try.results28]
    simp [Frame.at, asAddr, hr]
end Go.Proofs.Ytdfcdgjmjionbaa
