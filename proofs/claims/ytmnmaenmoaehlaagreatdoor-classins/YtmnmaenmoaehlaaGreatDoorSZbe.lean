/-
  An element as text, what is in it given. A node as text, what is in it given.
-/
import Derived.Test.YtmnmaenmoaehlaaGreatDoorSZbd
namespace Go.Proofs.YtmnmaenmoaehlaaGreatDoor
open Go.RowKit Go.Lib

/-- What inside does of a node: it writes out. -/
def InsC (W0 : World) (bA : Nat) (sc : Bool) (bw : Nat) (n : NodeM) (out : List UInt8) (cost : Nat) : Prop :=
  ∀ (W : World) (t : List UInt8) (ao : Option Addr) (cp : Nat), Below W0.heap.size W0 W → Wr bA sc W0.heap.size bw t W → t.length + cost + 100 ≤ 140737488355328 →
    Calls Tryz.prog 47 #[.pointer (some ⟨bw, 0, none⟩), .agg #[.int .i64 n.kind, .int .i64 n.space, .string n.name, .slice ao n.attrs.length cp, .string n.data, .string n.system, .int .i64 n.parent, .int .i64 n.first, .int .i64 n.last, .int .i64 n.prev, .int .i64 n.next, .int .i64 n.inner]] W fun e W' => e = .returned (.tuple #[]) ∧ Wr bA sc W0.heap.size bw (t ++ out) W' ∧ Nx W0.heap.size bw W W'

def elemM (inn : List UInt8) (n : NodeM) : List UInt8 := tagL n.name n.attrs ++ (if htmlM n.kind n.space && hasN voids n.name then [] else inn ++ catL [endB, n.name, gtB])

set_option maxHeartbeats 4000000 in
theorem element_void {W0 w : World} {bA : Nat} {sc : Bool} {bw : Nat} {t : List UInt8} (n : NodeM) (a : Option Addr) (cap : Nat) (hv : (htmlM n.kind n.space && hasN voids n.name) = true) (hb : Below W0.heap.size W0 w) (hw : Wr bA sc W0.heap.size bw t w) (ha : AtR w a n.attrs) (hl : n.attrs.length ≤ 100000) (hlen : t.length + n.name.size + attrsN n.attrs + 100 ≤ 140737488355328) :
    Calls Tryz.prog 92 #[.pointer (some ⟨bw, 0, none⟩), .agg #[.int .i64 n.kind, .int .i64 n.space, .string n.name, .slice a n.attrs.length cap, .string n.data, .string n.system, .int .i64 n.parent, .int .i64 n.first, .int .i64 n.last, .int .i64 n.prev, .int .i64 n.next, .int .i64 n.inner]] w fun e w' => e = .returned (.tuple #[]) ∧ Wr bA sc W0.heap.size bw (t ++ tagL n.name n.attrs) w' ∧ Nx W0.heap.size bw w w' := by
  have hB := hb.size
  have hltw := hw.lt
  have hn0 : Nx W0.heap.size bw w (w.alloc (nodeB n a cap)) := (Nx.refl _ bw w).alloc hB _
  have HT := hidE (startTag_any n.kind n.space n.name a cap n.attrs n.data n.system n.parent n.first n.last n.prev n.next n.inner (hw.alloc (nodeB n a cap)) (ha.nx hw hn0) hl hlen (Nat.le_trans hB hn0.size))
  have HV := hidE (fun W => isVoid_any n a cap W)
  rw [hv] at HV
  have HN0 := hidE hn0
  have HK0 : Hid ((w.alloc (nodeB n a cap)).heap[w.heap.size]? = some (nodeB n a cap)) := hidE (heap_alloc_new w _)
  unfold nodeB at HT HN0 HK0
  clear hw ha hlen hn0 hv
  go_enter_defers Tryz.func92, Tryz.ntmps92
  go_wp2_with (first
    | (go_at_call 110; refine (unhidE HT).mono ?_; rintro e w3 ⟨rfl, hw3, hn3⟩; have hk3 := hn3.block (unhidE HK0) (by omega) (by decide); have HW3 := hidE hw3; have HN3 := hidE ((unhidE HN0).trans hn3); have d0 := cell_row _ _ 0 _ _ _ hk3; have d1 := cell_row _ _ 1 _ _ _ hk3; have d2 := cell_row _ _ 2 _ _ _ hk3; have d3 := cell_row _ _ 3 _ _ _ hk3; have d4 := cell_row _ _ 4 _ _ _ hk3; have d5 := cell_row _ _ 5 _ _ _ hk3; have d6 := cell_row _ _ 6 _ _ _ hk3; have d7 := cell_row _ _ 7 _ _ _ hk3; have d8 := cell_row _ _ 8 _ _ _ hk3; have d9 := cell_row _ _ 9 _ _ _ hk3; have d10 := cell_row _ _ 10 _ _ _ hk3; have d11 := cell_row _ _ 11 _ _ _ hk3; clear hw3 hn3 hk3)
    | (go_at_call 68; refine ((unhidE HV) _).mono ?_; rintro e w4 ⟨rfl, hb4⟩; have HB4 := hidE hb4; clear hb4))
  have hn4 : Nx W0.heap.size bw w3 w4 := Nx.new (unhidE HB4) (Nat.le_trans hB (unhidE HN3).size)
  exact ⟨_, results_none rfl _ _ _, rfl, (unhidE HW3).more (unhidE HB4), (unhidE HN3).trans hn4⟩

set_option maxHeartbeats 4000000 in
theorem element_full {W0 w : World} {bA : Nat} {sc : Bool} {bw : Nat} {t : List UInt8} (n : NodeM) (a : Option Addr) (cap : Nat) (out : List UInt8) (cost : Nat) (hI : InsC W0 bA sc bw n out cost) (hco : out.length ≤ cost) (hv : (htmlM n.kind n.space && hasN voids n.name) = false) (hb : Below W0.heap.size W0 w) (hw : Wr bA sc W0.heap.size bw t w) (ha : AtR w a n.attrs) (hl : n.attrs.length ≤ 100000) (hlen : t.length + 2 * n.name.size + attrsN n.attrs + cost + 300 ≤ 140737488355328) :
    Calls Tryz.prog 92 #[.pointer (some ⟨bw, 0, none⟩), .agg #[.int .i64 n.kind, .int .i64 n.space, .string n.name, .slice a n.attrs.length cap, .string n.data, .string n.system, .int .i64 n.parent, .int .i64 n.first, .int .i64 n.last, .int .i64 n.prev, .int .i64 n.next, .int .i64 n.inner]] w fun e w' => e = .returned (.tuple #[]) ∧ Wr bA sc W0.heap.size bw (t ++ tagL n.name n.attrs ++ (out ++ catL [endB, n.name, gtB])) w' ∧ Nx W0.heap.size bw w w' := by
  have hB := hb.size
  have hltw := hw.lt
  have hn0 : Nx W0.heap.size bw w (w.alloc (nodeB n a cap)) := (Nx.refl _ bw w).alloc hB _
  have HT := hidE (startTag_any n.kind n.space n.name a cap n.attrs n.data n.system n.parent n.first n.last n.prev n.next n.inner (hw.alloc (nodeB n a cap)) (ha.nx hw hn0) hl (by omega) (Nat.le_trans hB hn0.size))
  have HV := hidE (fun W => isVoid_any n a cap W)
  rw [hv] at HV
  have HN0 := hidE hn0
  have HK0 : Hid ((w.alloc (nodeB n a cap)).heap[w.heap.size]? = some (nodeB n a cap)) := hidE (heap_alloc_new w _)
  have HLEN := hidE hlen
  have htl := tagL_len n.name n.attrs
  have hcat := cat3_len endB n.name gtB
  have HI := hidE hI
  unfold nodeB at HT HN0 HK0
  unfold endB gtB at *
  clear hw ha hlen hn0 hv hI
  go_enter_defers Tryz.func92, Tryz.ntmps92
  go_wp2_with (first
    | (go_at_call 110; refine (unhidE HT).mono ?_; rintro e w3 ⟨rfl, hw3, hn3⟩; have hk3 := hn3.block (unhidE HK0) (by omega) (by decide); have HW3 := hidE hw3; have HN3 := hidE ((unhidE HN0).trans hn3); have HK3 := hidE hk3; have d0 := cell_row _ _ 0 _ _ _ hk3; have d1 := cell_row _ _ 1 _ _ _ hk3; have d2 := cell_row _ _ 2 _ _ _ hk3; have d3 := cell_row _ _ 3 _ _ _ hk3; have d4 := cell_row _ _ 4 _ _ _ hk3; have d5 := cell_row _ _ 5 _ _ _ hk3; have d6 := cell_row _ _ 6 _ _ _ hk3; have d7 := cell_row _ _ 7 _ _ _ hk3; have d8 := cell_row _ _ 8 _ _ _ hk3; have d9 := cell_row _ _ 9 _ _ _ hk3; have d10 := cell_row _ _ 10 _ _ _ hk3; have d11 := cell_row _ _ 11 _ _ _ hk3; clear hw3 hn3 hk3)
    | (go_at_call 68; refine ((unhidE HV) _).mono ?_; rintro e w4 ⟨rfl, hb4⟩; have HB4 := hidE hb4; have hk4 := (hb4.block _ (lt_of_block (unhidE HK3))).trans (unhidE HK3); have hl4 := lt_of_block hk4; have hk4' := fun o => (alloc_old w4 o _ hl4).trans hk4; have f0 := fun o => cell_row _ _ 0 _ _ _ (hk4' o); have f1 := fun o => cell_row _ _ 1 _ _ _ (hk4' o); have f2 := fun o => cell_row _ _ 2 _ _ _ (hk4' o); have g2 := cell_row _ _ 2 _ _ _ hk4; have f3 := fun o => cell_row _ _ 3 _ _ _ (hk4' o); have f4 := fun o => cell_row _ _ 4 _ _ _ (hk4' o); have f5 := fun o => cell_row _ _ 5 _ _ _ (hk4' o); have f6 := fun o => cell_row _ _ 6 _ _ _ (hk4' o); have f7 := fun o => cell_row _ _ 7 _ _ _ (hk4' o); have f8 := fun o => cell_row _ _ 8 _ _ _ (hk4' o); have f9 := fun o => cell_row _ _ 9 _ _ _ (hk4' o); have f10 := fun o => cell_row _ _ 10 _ _ _ (hk4' o); have f11 := fun o => cell_row _ _ 11 _ _ _ (hk4' o); clear hb4 hk4 hk4'))
  have hn4 : Nx W0.heap.size bw w w4 := (unhidE HN3).trans (Nx.new (unhidE HB4) (Nat.le_trans hB (unhidE HN3).size))
  have hw4 := (unhidE HW3).more (unhidE HB4)
  have hw4l := hw4.lt
  have hn5 := hn4.alloc hB (.cells #[.string ⟨#[60, 47]⟩, .string n.name, .string ⟨#[62]⟩] 9)
  have hG5 : (w4.alloc (.cells #[.string ⟨#[60, 47]⟩, .string n.name, .string ⟨#[62]⟩] 9)).heap[w4.heap.size]? = some (.cells #[.string ⟨#[60, 47]⟩, .string n.name, .string ⟨#[62]⟩] 9 (0, 0)) := heap_alloc_new w4 _
  have hz1 : (⟨#[60, 47]⟩ : ByteArray).size = 2 := rfl
  have hz2 : (⟨#[62]⟩ : ByteArray).size = 1 := rfl
  refine ((unhidE HI) _ (t ++ tagL n.name n.attrs) a cap (hb.trans hn5.below) (hw4.alloc _) (by rw [List.length_append]; have := unhidE HLEN; omega)).mono ?_
  rintro e w6 ⟨rfl, hw6, hn6⟩
  go_wp2
  refine leaves_cons (f := 93) (args := #[.pointer (some ⟨bw, 0, none⟩), .slice (some ⟨w4.heap.size, 0, none⟩) 3 3]) (by simp) (by simp [go_sem]) ?_
  have hn7 := hn5.trans hn6
  refine (put_deferred [⟨#[60, 47]⟩, n.name, ⟨#[62]⟩] hw6 (hn6.block hG5 (by omega) (by decide)) (by omega) (by simp) (by
    rw [hcat, List.length_append, List.length_append]; have := unhidE HLEN; omega) (Nat.le_trans hB hn7.size) .returning).mono ?_
  rintro e u' w8 ⟨rfl, rfl, hw8, hn8⟩
  refine ⟨_, results_none rfl _ _ _, rfl, ?_, hn7.trans hn8⟩
  rw [← List.append_assoc]
  exact hw8
end Go.Proofs.YtmnmaenmoaehlaaGreatDoor

namespace Go.Proofs.YtmnmaenmoaehlaaGreatDoor
open Go.RowKit Go.Lib

def nodeM (inn : List UInt8) (n : NodeM) (pl : Bool) : List UInt8 :=
  if n.kind = 1 then elemM inn n
  else if n.kind = 2 then (if pl then n.data.data.toList else escL false n.data.data.toList)
  else if n.kind = 3 then catL [comO, n.data, comS]
  else if n.kind = 4 then catL [docO, n.name, gtB] else []
theorem cat1_len (a : ByteArray) : (catL [a]).length = a.size := by
  have e : catL [a] = a.data.toList := by simp [catL]
  rw [e, len_data]
def costM (n : NodeM) : Nat := 2 * n.name.size + attrsN n.attrs + 6 * n.data.size + 300

set_option maxHeartbeats 4000000 in
theorem node_void {W0 w : World} {bA : Nat} {sc : Bool} {bw : Nat} {t : List UInt8} (n : NodeM) (a : Option Addr) (cap : Nat) (pl : Bool) (hb : Below W0.heap.size W0 w) (hw : Wr bA sc W0.heap.size bw t w) (hk : n.kind = 1) (hv : (htmlM n.kind n.space && hasN voids n.name) = true) (ha : AtR w a n.attrs) (hl : n.attrs.length ≤ 100000) (hlen : t.length + n.name.size + attrsN n.attrs + 100 ≤ 140737488355328) :
    Calls Tryz.prog 72 #[.pointer (some ⟨bw, 0, none⟩), .agg #[.int .i64 n.kind, .int .i64 n.space, .string n.name, .slice a n.attrs.length cap, .string n.data, .string n.system, .int .i64 n.parent, .int .i64 n.first, .int .i64 n.last, .int .i64 n.prev, .int .i64 n.next, .int .i64 n.inner], .bool pl] w fun e w' => e = .returned (.tuple #[]) ∧ Wr bA sc W0.heap.size bw (t ++ tagL n.name n.attrs) w' ∧ Nx W0.heap.size bw w w' := by
  have hB := hb.size
  have hltw := hw.lt
  have hn0 : Nx W0.heap.size bw w (w.alloc (nodeB n a cap)) := (Nx.refl _ bw w).alloc hB _
  have hk0 : (w.alloc (nodeB n a cap)).heap[w.heap.size]? = some (nodeB n a cap) := heap_alloc_new w _
  have hw0 := hw.alloc (nodeB n a cap)
  have HE := hidE (element_void n a cap hv (hb.trans hn0.below) hw0 (ha.nx hw hn0) hl hlen)
  have HN0 := hidE hn0
  unfold nodeB at HE HN0
  clear hw ha hlen hn0 hk0 hw0 hv
  rw [hk] at HE HN0 ⊢
  go_enter Tryz.func72, Tryz.ntmps72
  go_wp2_with (go_at_call 92; refine (unhidE HE).mono ?_; rintro e w3 ⟨rfl, hw3, hn3⟩; have HW3 := hidE hw3; have HN3 := hidE ((unhidE HN0).trans hn3); clear hw3 hn3)
  go_end0
  exact ⟨rfl, unhidE HW3, unhidE HN3⟩

set_option maxHeartbeats 4000000 in
theorem node_full {W0 w : World} {bA : Nat} {sc : Bool} {bw : Nat} {t : List UInt8} (n : NodeM) (a : Option Addr) (cap : Nat) (pl : Bool) (hb : Below W0.heap.size W0 w) (hw : Wr bA sc W0.heap.size bw t w) (out : List UInt8) (cost : Nat) (hI : InsC W0 bA sc bw n out cost) (hco : out.length ≤ cost) (hk : n.kind = 1) (hv : (htmlM n.kind n.space && hasN voids n.name) = false) (ha : AtR w a n.attrs) (hl : n.attrs.length ≤ 100000) (hlen : t.length + 2 * n.name.size + attrsN n.attrs + cost + 300 ≤ 140737488355328) :
    Calls Tryz.prog 72 #[.pointer (some ⟨bw, 0, none⟩), .agg #[.int .i64 n.kind, .int .i64 n.space, .string n.name, .slice a n.attrs.length cap, .string n.data, .string n.system, .int .i64 n.parent, .int .i64 n.first, .int .i64 n.last, .int .i64 n.prev, .int .i64 n.next, .int .i64 n.inner], .bool pl] w fun e w' => e = .returned (.tuple #[]) ∧ Wr bA sc W0.heap.size bw (t ++ (tagL n.name n.attrs ++ (out ++ catL [endB, n.name, gtB]))) w' ∧ Nx W0.heap.size bw w w' := by
  have hB := hb.size
  have hltw := hw.lt
  have hn0 : Nx W0.heap.size bw w (w.alloc (nodeB n a cap)) := (Nx.refl _ bw w).alloc hB _
  have hk0 : (w.alloc (nodeB n a cap)).heap[w.heap.size]? = some (nodeB n a cap) := heap_alloc_new w _
  have hw0 := hw.alloc (nodeB n a cap)
  have HE := hidE (element_full n a cap out cost hI hco hv (hb.trans hn0.below) hw0 (ha.nx hw hn0) hl hlen)
  have HN0 := hidE hn0
  unfold nodeB at HE HN0
  clear hw ha hlen hn0 hk0 hw0 hv hI hco
  rw [hk] at HE HN0 ⊢
  go_enter Tryz.func72, Tryz.ntmps72
  go_wp2_with (go_at_call 92; refine (unhidE HE).mono ?_; rintro e w3 ⟨rfl, hw3, hn3⟩; have HW3 := hidE hw3; have HN3 := hidE ((unhidE HN0).trans hn3); clear hw3 hn3)
  go_end0
  exact ⟨rfl, by rw [← List.append_assoc]; exact unhidE HW3, unhidE HN3⟩

set_option maxHeartbeats 4000000 in
theorem node_plain {W0 w : World} {bA : Nat} {sc : Bool} {bw : Nat} {t : List UInt8} (n : NodeM) (a : Option Addr) (cap : Nat) (pl : Bool) (hb : Below W0.heap.size W0 w) (hw : Wr bA sc W0.heap.size bw t w) (hk : n.kind = 2) (hp : pl = true) (hlen : t.length + n.data.size + 100 ≤ 140737488355328) :
    Calls Tryz.prog 72 #[.pointer (some ⟨bw, 0, none⟩), .agg #[.int .i64 n.kind, .int .i64 n.space, .string n.name, .slice a n.attrs.length cap, .string n.data, .string n.system, .int .i64 n.parent, .int .i64 n.first, .int .i64 n.last, .int .i64 n.prev, .int .i64 n.next, .int .i64 n.inner], .bool pl] w fun e w' => e = .returned (.tuple #[]) ∧ Wr bA sc W0.heap.size bw (t ++ n.data.data.toList) w' ∧ Nx W0.heap.size bw w w' := by
  have hB := hb.size
  have hltw := hw.lt
  have hn0 : Nx W0.heap.size bw w (w.alloc (nodeB n a cap)) := (Nx.refl _ bw w).alloc hB _
  have hk0 : (w.alloc (nodeB n a cap)).heap[w.heap.size]? = some (nodeB n a cap) := heap_alloc_new w _
  have hw0 := hw.alloc (nodeB n a cap)
  have hn1 := hn0.alloc hB (.cells #[.string n.data] 9)
  have hlt1 : bw ≠ w.heap.size + 1 := by omega
  have HE := hidE (put_any [n.data] (hw0.alloc (.cells #[.string n.data] 9)) (g := w.heap.size + 1) (by have := heap_alloc_new (w.alloc (nodeB n a cap)) (.cells #[.string n.data] 9); simpa [sRow] using this) (by omega) (by simp) (by rw [cat1_len]; omega) (Nat.le_trans hB hn1.size))
  have HN1 := hidE hn1
  unfold nodeB at HE HN1
  clear hw hlen hn0 hk0 hw0 hn1
  rw [hk] at HE HN1 ⊢
  subst hp
  go_enter Tryz.func72, Tryz.ntmps72
  go_wp2_with (go_at_call 93; refine (unhidE HE).mono ?_; rintro e w3 ⟨rfl, hw3, hn3⟩; have HW3 := hidE hw3; have HN3 := hidE ((unhidE HN1).trans hn3); clear hw3 hn3)
  go_end0
  exact ⟨rfl, by have := unhidE HW3; simpa [catL] using this, unhidE HN3⟩

set_option maxHeartbeats 4000000 in
theorem node_text {W0 w : World} {bA : Nat} {sc : Bool} {bw : Nat} {t : List UInt8} (n : NodeM) (a : Option Addr) (cap : Nat) (pl : Bool) (hb : Below W0.heap.size W0 w) (hw : Wr bA sc W0.heap.size bw t w) (hk : n.kind = 2) (hp : pl = false) (hlen : t.length + 6 * n.data.size + 100 ≤ 140737488355328) :
    Calls Tryz.prog 72 #[.pointer (some ⟨bw, 0, none⟩), .agg #[.int .i64 n.kind, .int .i64 n.space, .string n.name, .slice a n.attrs.length cap, .string n.data, .string n.system, .int .i64 n.parent, .int .i64 n.first, .int .i64 n.last, .int .i64 n.prev, .int .i64 n.next, .int .i64 n.inner], .bool pl] w fun e w' => e = .returned (.tuple #[]) ∧ Wr bA sc W0.heap.size bw (t ++ escL false n.data.data.toList) w' ∧ Nx W0.heap.size bw w w' := by
  have hB := hb.size
  have hltw := hw.lt
  have hn0 : Nx W0.heap.size bw w (w.alloc (nodeB n a cap)) := (Nx.refl _ bw w).alloc hB _
  have hk0 : (w.alloc (nodeB n a cap)).heap[w.heap.size]? = some (nodeB n a cap) := heap_alloc_new w _
  have hw0 := hw.alloc (nodeB n a cap)
  have HE := hidE (fun m => escape_any (bokW bA sc) n.data false (hw0.drewN m) (by omega) (Nat.le_trans hB (hn0.drewN m).size))
  have HN0 := hidE hn0
  have HK0 := hidE hk0
  unfold nodeB at HE HN0 HK0
  clear hw hlen hn0 hk0 hw0
  rw [hk] at HE HN0 HK0 ⊢
  subst hp
  go_enter Tryz.func72, Tryz.ntmps72
  go_wp2
  go_region_held3 (fun W' => W'.cell? ⟨w.heap.size, 4, none⟩ = some (.string n.data)) (first | exact cell_row _ _ 4 _ _ _ (unhidE HK3) | exact cell_row _ _ 4 _ _ _ (unhidE HK0)) (first
    | (go_at_call 94; refine ((unhidE HE) 1).mono ?_; rintro e w3 ⟨rfl, hB3, hb3, hk3⟩; have HB3 := hidE hB3; have hn3 : Nx W0.heap.size bw _ w3 := ⟨below_dr1 hb3, hk3⟩; have HN3 := hidE ((unhidE HN0).trans hn3); have HK3 := hidE (hn3.block (unhidE HK0) (by omega) (by decide)); clear hB3 hb3 hk3 hn3))
  all_goals go_wp2
  all_goals go_end0
  all_goals exact ⟨rfl, .inr (unhidE HB3), unhidE HN3⟩

set_option maxHeartbeats 4000000 in
theorem node_comment {W0 w : World} {bA : Nat} {sc : Bool} {bw : Nat} {t : List UInt8} (n : NodeM) (a : Option Addr) (cap : Nat) (pl : Bool) (hb : Below W0.heap.size W0 w) (hw : Wr bA sc W0.heap.size bw t w) (hk : n.kind = 3) (hlen : t.length + n.data.size + 100 ≤ 140737488355328) :
    Calls Tryz.prog 72 #[.pointer (some ⟨bw, 0, none⟩), .agg #[.int .i64 n.kind, .int .i64 n.space, .string n.name, .slice a n.attrs.length cap, .string n.data, .string n.system, .int .i64 n.parent, .int .i64 n.first, .int .i64 n.last, .int .i64 n.prev, .int .i64 n.next, .int .i64 n.inner], .bool pl] w fun e w' => e = .returned (.tuple #[]) ∧ Wr bA sc W0.heap.size bw (t ++ catL [comO, n.data, comS]) w' ∧ Nx W0.heap.size bw w w' := by
  have hB := hb.size
  have hltw := hw.lt
  have hn0 : Nx W0.heap.size bw w (w.alloc (nodeB n a cap)) := (Nx.refl _ bw w).alloc hB _
  have hk0 : (w.alloc (nodeB n a cap)).heap[w.heap.size]? = some (nodeB n a cap) := heap_alloc_new w _
  have hw0 := hw.alloc (nodeB n a cap)
  have hn1 := hn0.alloc hB (.cells #[.string comO, .string n.data, .string comS] 9)
  have hlt1 : bw ≠ w.heap.size + 1 := by omega
  have HE := hidE (put_any [comO, n.data, comS] (hw0.alloc (.cells #[.string comO, .string n.data, .string comS] 9)) (g := w.heap.size + 1) (by have := heap_alloc_new (w.alloc (nodeB n a cap)) (.cells #[.string comO, .string n.data, .string comS] 9); simpa [sRow] using this) (by omega) (by simp) (by rw [cat3_len]; have k3 : comO.size = 4 := rfl; have k4 : comS.size = 3 := rfl; omega) (Nat.le_trans hB hn1.size))
  have HN1 := hidE hn1
  unfold nodeB at HE HN1
  clear hw hlen hn0 hk0 hw0 hn1
  rw [hk] at HE HN1 ⊢
  unfold comO comS at *
  go_enter Tryz.func72, Tryz.ntmps72
  go_wp2_with (go_at_call 93; refine (unhidE HE).mono ?_; rintro e w3 ⟨rfl, hw3, hn3⟩; have HW3 := hidE hw3; have HN3 := hidE ((unhidE HN1).trans hn3); clear hw3 hn3)
  go_end0
  exact ⟨rfl, unhidE HW3, unhidE HN3⟩

set_option maxHeartbeats 4000000 in
theorem node_doctype {W0 w : World} {bA : Nat} {sc : Bool} {bw : Nat} {t : List UInt8} (n : NodeM) (a : Option Addr) (cap : Nat) (pl : Bool) (hb : Below W0.heap.size W0 w) (hw : Wr bA sc W0.heap.size bw t w) (hk : n.kind = 4) (hlen : t.length + n.name.size + 100 ≤ 140737488355328) :
    Calls Tryz.prog 72 #[.pointer (some ⟨bw, 0, none⟩), .agg #[.int .i64 n.kind, .int .i64 n.space, .string n.name, .slice a n.attrs.length cap, .string n.data, .string n.system, .int .i64 n.parent, .int .i64 n.first, .int .i64 n.last, .int .i64 n.prev, .int .i64 n.next, .int .i64 n.inner], .bool pl] w fun e w' => e = .returned (.tuple #[]) ∧ Wr bA sc W0.heap.size bw (t ++ catL [docO, n.name, gtB]) w' ∧ Nx W0.heap.size bw w w' := by
  have hB := hb.size
  have hltw := hw.lt
  have hn0 : Nx W0.heap.size bw w (w.alloc (nodeB n a cap)) := (Nx.refl _ bw w).alloc hB _
  have hk0 : (w.alloc (nodeB n a cap)).heap[w.heap.size]? = some (nodeB n a cap) := heap_alloc_new w _
  have hw0 := hw.alloc (nodeB n a cap)
  have hn1 := hn0.alloc hB (.cells #[.string docO, .string n.name, .string gtB] 9)
  have hlt1 : bw ≠ w.heap.size + 1 := by omega
  have HE := hidE (put_any [docO, n.name, gtB] (hw0.alloc (.cells #[.string docO, .string n.name, .string gtB] 9)) (g := w.heap.size + 1) (by have := heap_alloc_new (w.alloc (nodeB n a cap)) (.cells #[.string docO, .string n.name, .string gtB] 9); simpa [sRow] using this) (by omega) (by simp) (by rw [cat3_len]; have k3 : docO.size = 10 := rfl; have k4 : gtB.size = 1 := rfl; omega) (Nat.le_trans hB hn1.size))
  have HN1 := hidE hn1
  unfold nodeB at HE HN1
  clear hw hlen hn0 hk0 hw0 hn1
  rw [hk] at HE HN1 ⊢
  unfold docO gtB at *
  go_enter Tryz.func72, Tryz.ntmps72
  go_wp2_with (go_at_call 93; refine (unhidE HE).mono ?_; rintro e w3 ⟨rfl, hw3, hn3⟩; have HW3 := hidE hw3; have HN3 := hidE ((unhidE HN1).trans hn3); clear hw3 hn3)
  go_end0
  exact ⟨rfl, unhidE HW3, unhidE HN3⟩

set_option maxHeartbeats 4000000 in
theorem node_other {W0 w : World} {bA : Nat} {sc : Bool} {bw : Nat} {t : List UInt8} (n : NodeM) (a : Option Addr) (cap : Nat) (pl : Bool) (hb : Below W0.heap.size W0 w) (hw : Wr bA sc W0.heap.size bw t w) (h1 : n.kind ≠ 1) (h2 : n.kind ≠ 2) (h3 : n.kind ≠ 3) (h4 : n.kind ≠ 4) :
    Calls Tryz.prog 72 #[.pointer (some ⟨bw, 0, none⟩), .agg #[.int .i64 n.kind, .int .i64 n.space, .string n.name, .slice a n.attrs.length cap, .string n.data, .string n.system, .int .i64 n.parent, .int .i64 n.first, .int .i64 n.last, .int .i64 n.prev, .int .i64 n.next, .int .i64 n.inner], .bool pl] w fun e w' => e = .returned (.tuple #[]) ∧ Wr bA sc W0.heap.size bw (t ++ []) w' ∧ Nx W0.heap.size bw w w' := by
  have hB := hb.size
  have hltw := hw.lt
  have hn0 : Nx W0.heap.size bw w (w.alloc (nodeB n a cap)) := (Nx.refl _ bw w).alloc hB _
  have hk0 : (w.alloc (nodeB n a cap)).heap[w.heap.size]? = some (nodeB n a cap) := heap_alloc_new w _
  have hw0 := hw.alloc (nodeB n a cap)
  have HN0 := hidE hn0
  have HW0 := hidE hw0
  have q1 : (n.kind == 1) = false := by simpa using h1
  have q2 : (n.kind == 2) = false := by simpa using h2
  have q3 : (n.kind == 3) = false := by simpa using h3
  have q4 : (n.kind == 4) = false := by simpa using h4
  unfold nodeB at HN0 HW0
  clear hw hn0 hk0 hw0
  go_enter Tryz.func72, Tryz.ntmps72
  go_wp2
  go_end0
  exact ⟨rfl, by rw [List.append_nil]; exact unhidE HW0, unhidE HN0⟩


/-- A node as text. -/
theorem node_any {W0 w : World} {bA : Nat} {sc : Bool} {bw : Nat} {t : List UInt8} (n : NodeM) (a : Option Addr) (cap : Nat) (pl : Bool) (out : List UInt8) (cost : Nat) (hI : InsC W0 bA sc bw n out cost) (hco : out.length ≤ cost) (hb : Below W0.heap.size W0 w) (hw : Wr bA sc W0.heap.size bw t w) (ha : AtR w a n.attrs) (hl : n.attrs.length ≤ 100000) (hlen : t.length + costM n + cost + 100 ≤ 140737488355328) :
    Calls Tryz.prog 72 #[.pointer (some ⟨bw, 0, none⟩), .agg #[.int .i64 n.kind, .int .i64 n.space, .string n.name, .slice a n.attrs.length cap, .string n.data, .string n.system, .int .i64 n.parent, .int .i64 n.first, .int .i64 n.last, .int .i64 n.prev, .int .i64 n.next, .int .i64 n.inner], .bool pl] w fun e w' => e = .returned (.tuple #[]) ∧ Wr bA sc W0.heap.size bw (t ++ nodeM out n pl) w' ∧ Nx W0.heap.size bw w w' := by
  unfold costM at hlen
  unfold nodeM elemM
  by_cases h1 : n.kind = 1
  · rw [if_pos h1]
    cases hv : (htmlM n.kind n.space && hasN voids n.name) with
    | true => simpa using node_void n a cap pl hb hw h1 hv ha hl (by omega)
    | false => simpa using node_full n a cap pl hb hw out cost hI hco h1 hv ha hl (by omega)
  · rw [if_neg h1]
    by_cases h2 : n.kind = 2
    · rw [if_pos h2]
      cases hp : pl with
      | true => exact node_plain n a cap true hb hw h2 rfl (by omega)
      | false => exact node_text n a cap false hb hw h2 rfl (by omega)
    · rw [if_neg h2]
      by_cases h3 : n.kind = 3
      · rw [if_pos h3]; exact node_comment n a cap pl hb hw h3 (by omega)
      · rw [if_neg h3]
        by_cases h4 : n.kind = 4
        · rw [if_pos h4]; exact node_doctype n a cap pl hb hw h4 (by omega)
        · rw [if_neg h4]; exact node_other n a cap pl hb hw h1 h2 h3 h4
end Go.Proofs.YtmnmaenmoaehlaaGreatDoor
