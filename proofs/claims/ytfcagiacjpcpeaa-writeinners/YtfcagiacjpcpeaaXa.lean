/-
  The document's text of a node: an attribute's name.
-/
import Derived.Test.YtfcagiacjpcpeaaVe
import Derived.Test.YtfcagiacjpcpeaaRf7
import Derived.Test.YtfcagiacjpcpeaaEg
namespace Go.Proofs.Ytfcagiacjpcpeaa
open Go.RowKit Go.Lib

def shownB (x : AttrM) : ByteArray := ⟨((aheadB x).data.toList ++ x.name.data.toList).toArray⟩
theorem shown_eq {a : ByteArray} {x : AttrM} {p : ByteArray} (h : aheadB x = p) (ha : a.data.toList = p.data.toList ++ x.name.data.toList) : a = shownB x := by
  unfold shownB
  rw [h, ← ha]

set_option maxHeartbeats 1000000 in
theorem shown_any (x : AttrM) (hx : x.name.size ≤ 100000000) (w : World) : Calls Try.prog 70 #[.agg #[.int .i64 x.space, .string x.pre, .string x.name, .string x.val]] w fun e w' => e = .returned (.string (shownB x)) ∧ Below w.heap.size w w' := by
  have HB := hidE (below_new w (.cells #[.int .i64 x.space, .string x.pre, .string x.name, .string x.val] 96))
  have hnz : (x.name.size : Int) ≤ 100000000 := by omega
  by_cases h3 : x.space = 3
  · have HQ : Hid (aheadB x = xlinkB) := hidE (by unfold aheadB; rw [if_pos h3])
    rw [h3] at HB ⊢
    clear h3
    go_enter Try.func70, Try.ntmps70
    go_wp2
    go_ret
    exact ⟨congrArg (fun v => Ending.returned (Value.string v)) (shown_eq (unhidE HQ) (by simp [ByteArray.data_append, xlinkB])), unhidE HB⟩
  · by_cases h4 : x.space = 4
    · have HQ : Hid (aheadB x = xmlB) := hidE (by unfold aheadB; rw [if_neg h3, if_pos h4])
      rw [h4] at HB ⊢
      clear h3 h4
      go_enter Try.func70, Try.ntmps70
      go_wp2
      go_ret
      exact ⟨congrArg (fun v => Ending.returned (Value.string v)) (shown_eq (unhidE HQ) (by simp [ByteArray.data_append, xmlB])), unhidE HB⟩
    · by_cases h5 : x.space = 5
      · cases hq : (x.name.toList == [120, 109, 108, 110, 115]) with
        | true =>
          have HQ : Hid (aheadB x = ⟨#[]⟩) := hidE (by unfold aheadB; rw [if_neg h3, if_neg h4, if_pos h5, hq]; rfl)
          have HN : Hid (x.name.data.toList = [120, 109, 108, 110, 115]) := hidE (by rw [← toList_data]; simpa using hq)
          rw [h5] at HB ⊢
          clear h3 h4 h5
          go_enter Try.func70, Try.ntmps70
          go_wp2
          go_ret
          exact ⟨congrArg (fun v => Ending.returned (Value.string v)) (shown_eq (unhidE HQ) (by rw [unhidE HN]; rfl)), unhidE HB⟩
        | false =>
          have HQ : Hid (aheadB x = xmlnsB) := hidE (by unfold aheadB; rw [if_neg h3, if_neg h4, if_pos h5, hq]; rfl)
          rw [h5] at HB ⊢
          clear h3 h4 h5
          go_enter Try.func70, Try.ntmps70
          go_wp2
          go_ret
          exact ⟨congrArg (fun v => Ending.returned (Value.string v)) (shown_eq (unhidE HQ) (by simp [ByteArray.data_append, xmlnsB])), unhidE HB⟩
      · have HQ : Hid (aheadB x = ⟨#[]⟩) := hidE (by unfold aheadB; rw [if_neg h3, if_neg h4, if_neg h5])
        have q3 : (x.space == 3) = false := by simpa using h3
        have q4 : (x.space == 4) = false := by simpa using h4
        have q5 : (x.space == 5) = false := by simpa using h5
        go_enter Try.func70, Try.ntmps70
        go_wp2
        go_ret
        exact ⟨congrArg (fun v => Ending.returned (Value.string v)) (shown_eq (unhidE HQ) (by simp)), unhidE HB⟩
end Go.Proofs.Ytfcagiacjpcpeaa
