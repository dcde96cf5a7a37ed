/-
  internal/stringslite.Clone at this program's numbers: the library's own theorem, applied; strings.Clone.
-/
import Derived.Shelf.Pu.Clone
import Derived.Test.YtdhknaiggnafnaaTa
namespace Go.Proofs
open Go.Shelf Go.RowKit
def Try.laysPu25_ren : Go.Shelf.Ren := ⟨fun | 25 => 37 | n => n, fun | 0 => 0 | 3 => 3 | 4 => 4 | 5 => 5 | 9 => 9 | 37 => 53 | 47 => 54 | n => n, fun | n => n⟩
theorem Try.laysPu25 : Go.Proofs.LaysPu.n25 Try.prog Try.laysPu25_ren := {
  mixed := by kernel_rfl
  f25 := Try.func37.trans (congrArg some (by kernel_rfl))
  t0 := Try.underlying0
  a0 := Try.isAgg0
  z0 := Try.sizeOf0
  v0 := Try.zeroValue0
  i0 := by kernel_rfl
  t3 := Try.underlying3
  a3 := Try.isAgg3
  z3 := Try.sizeOf3
  v3 := Try.zeroValue3
  i3 := by kernel_rfl
  t4 := Try.underlying4
  a4 := Try.isAgg4
  z4 := Try.sizeOf4
  v4 := Try.zeroValue4
  i4 := by kernel_rfl
  t5 := Try.underlying5
  a5 := Try.isAgg5
  z5 := Try.sizeOf5
  v5 := Try.zeroValue5
  i5 := by kernel_rfl
  t9 := Try.underlying9
  a9 := Try.isAgg9
  z9 := Try.sizeOf9
  v9 := Try.zeroValue9
  i9 := by kernel_rfl
  t37 := Try.underlying53
  a37 := Try.isAgg53
  z37 := Try.sizeOf53
  v37 := Try.zeroValue53
  i37 := by kernel_rfl
  t47 := Try.underlying54
  a47 := Try.isAgg54
  z47 := Try.sizeOf54
  v47 := Try.zeroValue54
  i47 := by kernel_rfl }
end Go.Proofs
namespace Go.Proofs.Ytdhknaiggnafnaa
open Go.RowKit
theorem clone_any (s : ByteArray) (w : World) (hs : (s.size : Int) < 281474976710656) :
    Calls Try.prog 25 #[.string s] w fun e w' => e = .returned (.string s) ∧ Below w.heap.size w w' := by
  have hlim : s.size ≤ 281474976710656 := by omega
  have H : Hid (Calls Try.prog 37 #[.string s] w fun e w' => e = .returned (.string s) ∧ Below w.heap.size w w') := hide (AnyPu.stringslite_Clone Try.laysPu25 s w hlim)
  clear hs hlim
  go_enter Try.func25, Try.ntmps25
  go_wp2_with (first | (go_at_call 37; refine (unhide H).mono ?_; rintro e w' ⟨rfl, hb⟩; have HB := hide hb; clear hb))
  go_ret
  exact ⟨rfl, unhide HB⟩
end Go.Proofs.Ytdhknaiggnafnaa
