/-
  What package write asks of a node: whether it is one of HTML, whether it is void; the first node in it.
-/
import Derived.Test.YtfcagiacjpcpeaaVe
namespace Go.Proofs.Ytfcagiacjpcpeaa
open Go.RowKit Go.Lib

def nodeB (n : NodeM) (a : Option Addr) (cap : Nat) : Obj := .cells #[.int .i64 n.kind, .int .i64 n.space, .string n.name, .slice a n.attrs.length cap, .string n.data, .string n.system, .int .i64 n.parent, .int .i64 n.first, .int .i64 n.last, .int .i64 n.prev, .int .i64 n.next, .int .i64 n.inner] 60
theorem isHTML_any (n : NodeM) (a : Option Addr) (cap : Nat) (w : World) : Calls Try.prog 56 #[.agg #[.int .i64 n.kind, .int .i64 n.space, .string n.name, .slice a n.attrs.length cap, .string n.data, .string n.system, .int .i64 n.parent, .int .i64 n.first, .int .i64 n.last, .int .i64 n.prev, .int .i64 n.next, .int .i64 n.inner]] w fun e w' => e = .returned (.bool (htmlM n.kind n.space)) ∧ Below w.heap.size w w' := by
  have HB := hidE (below_new w (nodeB n a cap))
  unfold nodeB at HB
  unfold htmlM
  cases h1 : (n.kind == 1) with
  | true =>
    go_enter Try.func56, Try.ntmps56
    go_wp2
    go_ret
    exact ⟨rfl, unhidE HB⟩
  | false =>
    go_enter Try.func56, Try.ntmps56
    go_wp2
    go_ret
    exact ⟨rfl, unhidE HB⟩

set_option maxHeartbeats 1000000 in
theorem isVoid_any (n : NodeM) (a : Option Addr) (cap : Nat) (w : World) : Calls Try.prog 55 #[.agg #[.int .i64 n.kind, .int .i64 n.space, .string n.name, .slice a n.attrs.length cap, .string n.data, .string n.system, .int .i64 n.parent, .int .i64 n.first, .int .i64 n.last, .int .i64 n.prev, .int .i64 n.next, .int .i64 n.inner]] w fun e w' => e = .returned (.bool (htmlM n.kind n.space && hasN voids n.name)) ∧ Below w.heap.size w w' := by
  have HB := hidE (below_new w (nodeB n a cap))
  have HH := hidE (fun W => isHTML_any n a cap W)
  have HV := hidE (fun W => void_any n.name W)
  have HK : Hid (∀ W, Below (w.alloc (nodeB n a cap)).heap.size (w.alloc (nodeB n a cap)) W → W.cell? ⟨w.heap.size, 2, none⟩ = some (.string n.name)) := hidE (fun W hb => cell_row _ _ 2 _ _ _ ((hb.block _ (by simp)).trans (heap_alloc_new w _)))
  unfold nodeB at HB HK
  generalize hasN voids n.name = r at HV
  cases h1 : htmlM n.kind n.space with
  | true =>
    rw [h1] at HH
    clear h1
    go_enter Try.func55, Try.ntmps55
    go_wp2_with (first
      | (go_at_call 56; refine (unhidE HH _).mono ?_; rintro e w1 ⟨rfl, hb1⟩; have c2 := (unhidE HK) _ hb1; have HB1 := hidE ((unhidE HB).trans (hb1.mono (unhidE HB).size)); clear hb1)
      | (go_at_call 13; refine (unhidE HV _).mono ?_; rintro e w2 ⟨rfl, hb2⟩; have HB2 := hidE ((unhidE HB1).trans (hb2.mono (unhidE HB1).size)); clear hb2))
    go_ret
    exact ⟨rfl, unhidE HB2⟩
  | false =>
    rw [h1] at HH
    clear h1
    go_enter Try.func55, Try.ntmps55
    go_wp2_with (first
      | (go_at_call 56; refine (unhidE HH _).mono ?_; rintro e w1 ⟨rfl, hb1⟩; have HB1 := hidE ((unhidE HB).trans (hb1.mono (unhidE HB).size)); clear hb1))
    go_ret
    exact ⟨rfl, unhidE HB1⟩

/-- An arena that stays as it is while it is written: what it answers of its nodes, in every world that grew out of W0. -/
def NodeC (W0 : World) (bA : Nat) (ns : List NodeM) : Prop :=
  ∀ W, Below W0.heap.size W0 W → ∀ (c : Nat) n, ns[c]? = some n → Calls Try.prog 34 #[.pointer (some ⟨bA, 0, none⟩), .int .i64 c] W fun e W' => ∃ ao cp, e = .returned (.tuple #[.agg #[.int .i64 n.kind, .int .i64 n.space, .string n.name, .slice ao n.attrs.length cp, .string n.data, .string n.system, .int .i64 n.parent, .int .i64 n.first, .int .i64 n.last, .int .i64 n.prev, .int .i64 n.next, .int .i64 n.inner], .int .i64 0]) ∧ AtR W' ao n.attrs ∧ Below W.heap.size W W'
theorem NodeC.of {W0 : World} {base bA : Nat} {ns : List NodeM} {F : Nat → Prop} (h : ArS W0 base bA ns F) : NodeC W0 bA ns := by
  intro W hb c n hn
  have hW : ArS W base bA ns F := h.mod (Mod.of_below hb) (fun _ _ e => e)
  refine (node_in hW c n hn).mono ?_
  rintro e W' ⟨ao, cp, rfl, hown, hb', _⟩
  refine ⟨ao, cp, rfl, fun hne => ?_, hb'⟩
  rcases hown.2 with ⟨_, h0⟩ | ⟨g, cap, cur, hv, _, hg, hnc, _, hcs, htk⟩
  · exact absurd (List.eq_nil_of_length_eq_zero h0) hne
  · injection hv with hv1 hv2 hv3
    refine ⟨g, cur, (0, 0), hv1, hg, fun j v hj => ?_⟩
    rw [← htk] at hj
    have hj2 := (List.getElem?_eq_some_iff.1 hj).1
    rw [List.length_take] at hj2
    rw [List.getElem?_take_of_lt (by omega)] at hj
    simpa using hj
end Go.Proofs.Ytfcagiacjpcpeaa
