/-
  The document's Small; what EditAppends builds, plain.
-/
import Derived.Test.YtlbkoafeedlfaaaEa2
namespace Go.Proofs.Ytlbkoafeedlfaaa
open Go.RowKit

set_option maxHeartbeats 2000000 in
theorem refSmall_any (s : ByteArray) (w : World) (hs : s.size ≤ 100) :
    Calls Try.prog 26 #[.string s] w fun e w' => e = .returned (.string (lowS s)) ∧ Below w.heap.size w w' := by
  have hcv := fun W => run_bytes_of_string (P := Try.prog) W 9 46 5 s Try.underlying9 Try.underlying46 Try.underlying5
  have hn := len_data s
  have HN := hide hn
  clear hn
  obtain ⟨cap, hcap⟩ : ∃ cap, cap = grownCap w s.size 0 5 := ⟨_, rfl⟩
  have HLS : Hid (LowAt w (w.drew.alloc (.cells (bytesRow s cap) 5 ((bytesRow s cap).size, (bytesRow s cap).size + 1))) s.data.toList 0) := hide (low_start w s cap (by rw [hcap]; exact grownCap_ge w s.size 0 5))
  rw [hcap] at HLS
  have HBK : Hid (∀ W, LowAt w W s.data.toList s.size → (convert 46 9 (.slice (some ⟨w.heap.size, 0, none⟩) s.size cap)).run Try.prog W = .ok (.string (lowS s)) W) := hide (fun W hW => by
    have := run_convert_bytes_back (P := Try.prog) W 46 9 5 ⟨w.heap.size, 0, none⟩ cap (s.data.toList.map lowB) Try.underlying46 Try.underlying5 Try.underlying9 (fun j hj => by
      have hj' : j < s.data.toList.length := by simpa using hj
      have := hW.cells j _ (List.getElem?_eq_getElem hj')
      rw [if_pos (by rw [← unhide HN]; exact hj')] at this
      have ad : (⟨w.heap.size, 0, none⟩ : Addr).add j = ⟨w.heap.size, j, none⟩ := by unfold Addr.add; split <;> simp_all
      rw [ad, this]
      simp)
    rw [List.length_map, unhide HN] at this
    exact this)
  rw [hcap] at HBK
  clear hcap
  have hsz : (s.size : Int) ≤ 100 := by omega
  go_enter Try.func26, Try.ntmps26
  go_wp2
  go_loopg [4] s.size (fun k sl wx => ∃ j : Nat, sl = .int .i64 j ∧ j + k = s.size ∧ LowAt w wx s.data.toList j)
  case atStart => exact ⟨0, rfl, by omega, unhide HLS⟩
  case round =>
    obtain ⟨j, rfl, hjk, hlo⟩ := hrel
    by_cases hj : j < s.size
    · have hjz : (j : Int) < (s.size : Int) := by omega
      have hx : s.data.toList[j]? = some s.data.toList[j] := List.getElem?_eq_getElem (by rw [unhide HN]; exact hj)
      generalize s.data.toList[j] = c at hx
      have d0 := hlo.cells j c hx
      rw [if_neg (Nat.lt_irrefl _)] at d0
      have f0 := hlo.free j (by rw [unhide HN]; exact hj)
      have HLO := hide hlo
      have HX := hide hx
      clear hlo hx
      by_cases h2 : (65 : Int) ≤ (c.toNat : Int)
      · by_cases h3 : (c.toNat : Int) ≤ 90
        · have HLC := hide (lowB_cap c (by omega) (by omega))
          go_wp2
          go_roundg (gk - 1)
          case measure => omega
          case rel => exact ⟨j + 1, by go_num, by omega, (unhide HLO).put (unhide HX) (by rw [unhide HLC]) ⟨_, d0⟩⟩
        · have HLC := hide (lowB_other c (by omega))
          go_wp2
          go_roundg (gk - 1)
          case measure => omega
          case rel => exact ⟨j + 1, by go_num, by omega, (unhide HLO).same (unhide HX) (unhide HLC)⟩
      · have HLC := hide (lowB_other c (by omega))
        go_wp2
        go_roundg (gk - 1)
        case measure => omega
        case rel => exact ⟨j + 1, by go_num, by omega, (unhide HLO).same (unhide HX) (unhide HLC)⟩
    · have hjz : ¬ (j : Int) < (s.size : Int) := by omega
      obtain rfl : j = s.size := by omega
      have hbk := (unhide HBK) _ hlo
      have HLO := hide hlo.below
      clear hlo
      go_wp2
      go_ret
      exact ⟨rfl, unhide HLO⟩

/-- The text that a number stands for. -/
def pick (v : UInt8) : ByteArray := ([⟨#[100, 105, 118]⟩, ⟨#[66]⟩, ⟨#[]⟩, ⟨#[120, 49]⟩, ⟨#[83, 112, 97, 110]⟩, ⟨#[]⟩] : List ByteArray).getD (v.toNat % 6) ⟨#[]⟩
def item (v : UInt8) : OneM := if v.toNat % 6 = 2 ∨ v.toNat % 6 = 5 then dataQ 2 ⟨#[116]⟩ else elemQ 0 (lowS (pick v)) []
def osA (l : List UInt8) : List OneM := { oneM 0 with kids := [1] } :: { elemQ 0 (lowS ⟨#[72, 84, 77, 76]⟩) [] with up := 0, kids := List.range' 2 l.length } :: l.map fun v => { item v with up := 1 }

theorem modify_last {α : Type} (l : List α) (q : α) (f : α → α) : (l ++ [q]).modify l.length f = l ++ [f q] := by
  induction l with
  | nil => rfl
  | cons x l ih => simp [ih]

theorem osA_len (l : List UInt8) : (osA l).length = l.length + 2 := by simp [osA]

theorem appO_start : appO [oneM 0] 0 (elemQ 0 (lowS ⟨#[72, 84, 77, 76]⟩) []) = osA [] := by
  simp [appO, linkO, osA, insO, oneM, elemQ]

theorem appO_step (l : List UInt8) (v : UInt8) : appO (osA l) 1 (item v) = osA (l ++ [v]) := by
  unfold appO linkO
  rw [osA_len]
  unfold osA
  simp only [List.cons_append, List.modify_succ_cons, List.modify_zero_cons]
  have e := modify_last (l.map fun v => { item v with up := (1 : Int) }) (item v) (fun o => { o with up := ((1 : Nat) : Int) })
  rw [List.length_map] at e
  rw [e]
  simp [insO, List.range'_1_concat]
  omega
end Go.Proofs.Ytlbkoafeedlfaaa
