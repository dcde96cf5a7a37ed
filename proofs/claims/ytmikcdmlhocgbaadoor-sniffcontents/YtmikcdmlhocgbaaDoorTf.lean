/-
  The walk of SniffContents.
-/
import Derived.Test.YtmikcdmlhocgbaaDoorTe
namespace Go.Proofs.YtmikcdmlhocgbaaDoor
open Go.RowKit Go.Lib

theorem sniffContents_walk (s : ByteArray) (w : World) (hs : s.size ≤ 140737488351232) :
    Calls Tryd.prog 5 #[.string s] w fun e w' => e = .returned (.bool true) ∧ Below w.heap.size w w' := by
  have hsm : Small s := by unfold Small; omega
  have H1 := hide (fun w1 (hb : Below w.heap.size w w1) => (content_any s w1 hsm).mono fun e w' (h : _ ∧ _) => (⟨h.1, hb.trans (h.2.mono hb.size)⟩ : e = .returned (optV (contentM s.data.toList)) ∧ Below w.heap.size w w'))
  have H2 := hide (fun w1 (hb : Below w.heap.size w w1) => (refContent_any s w1 hsm).mono fun e w' (h : _ ∧ _) => (⟨h.1, hb.trans (h.2.mono hb.size)⟩ : e = .returned (optV (contentM s.data.toList)) ∧ Below w.heap.size w w'))
  have H3 := hide (fun w1 (hb : Below w.heap.size w w1) => (awake_any w1).mono fun e w' (h : _ ∧ _) => (⟨h.1, hb.trans (h.2.mono hb.size)⟩ : e = .returned (.bool true) ∧ Below w.heap.size w w'))
  have HB0 := hide (Below.refl w.heap.size w)
  unfold optV at H1 H2
  generalize (contentM s.data.toList).isSome = q2 at H1 H2
  generalize (⟨((contentM s.data.toList).getD []).toArray⟩ : ByteArray) = q1 at H1 H2
  clear hs hsm
  go_enter Tryd.func5, Tryd.ntmps5
  go_wp2_with (first
    | (go_at_call 15; refine ((unhide H1) _ (unhide HB0)).mono ?_; rintro e w1 ⟨rfl, hb⟩; have HB1 := hide hb; clear hb)
    | (go_at_call 16; refine ((unhide H2) _ (unhide HB1)).mono ?_; rintro e w2 ⟨rfl, hb⟩; have HB2 := hide hb; clear hb)
    | (go_at_call 12; refine ((unhide H3) _ (unhide HB2)).mono ?_; rintro e w3 ⟨rfl, hb⟩; have HB3 := hide hb; clear hb))
  go_ret
  exact ⟨rfl, unhide HB3⟩
end Go.Proofs.YtmikcdmlhocgbaaDoor
