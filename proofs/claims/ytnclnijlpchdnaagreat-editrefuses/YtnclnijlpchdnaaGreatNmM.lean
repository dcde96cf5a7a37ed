/-
  Package edit's Name, and the functions of strings that it calls.
-/
import Derived.Shelf.Small.Utf8
import Derived.Shelf.Small.Strs
import Derived.Shelf.Strings.Search1
import Derived.Shelf.Strings.Runes
import Derived.Shelf.Strings.IndexAny
import Derived.Shelf.Strings.AsciiSet
import Derived.Shelf.Strings.IndexAnyAll
import Derived.Test.YtnclnijlpchdnaaGreatProg
import Derived.Test.YtnclnijlpchdnaaGreatRows
import Derived.WalkKit
import Derived.WalkSpells
import Derived.WalkLawsBesides
import Derived.Laws.Runes
import Derived.WalkMore
import Derived.Laws.RangeAny
import Derived.Lib.OthersKept
namespace Go.Proofs
open Go.Shelf
def Tryz.lays119_ren : Go.Shelf.Ren := ⟨fun | 119 => 119 | n => n, fun | 21 => 21 | 4 => 4 | n => n, fun | n => n⟩
theorem Tryz.lays119 : Go.Proofs.Lays.n119 Tryz.prog Tryz.lays119_ren := {
  mixed := by kernel_rfl
  f119 := Tryz.func119.trans (congrArg some (by kernel_rfl))
  t4 := Tryz.underlying4
  a4 := Tryz.isAgg4
  z4 := Tryz.sizeOf4
  v4 := Tryz.zeroValue4
  t21 := Tryz.underlying21
  a21 := Tryz.isAgg21
  z21 := Tryz.sizeOf21
  v21 := Tryz.zeroValue21 }
theorem Tryz.utf8_ValidRune (r : Int) (w : World) :
    Calls Tryz.prog 119 #[.int .i32 r] w fun e w' => e = .returned (.bool (Lib.validRune r)) ∧ w' = w := Any.utf8_ValidRune Tryz.lays119 r w
def Tryz.lays137_ren : Go.Shelf.Ren := ⟨fun | 137 => 118 | 217 => 122 | 266 => 123 | n => n, fun | 9 => 9 | 5 => 5 | 3 => 3 | n => n, fun | n => n⟩
theorem Tryz.lays137 : Go.Proofs.Lays.n137 Tryz.prog Tryz.lays137_ren := {
  mixed := by kernel_rfl
  f137 := Tryz.func118.trans (congrArg some (by kernel_rfl))
  f217 := Tryz.func122.trans (congrArg some (by kernel_rfl))
  f266 := Tryz.func123.trans (congrArg some (by kernel_rfl))
  t3 := Tryz.underlying3
  a3 := Tryz.isAgg3
  z3 := Tryz.sizeOf3
  v3 := Tryz.zeroValue3
  t5 := Tryz.underlying5
  a5 := Tryz.isAgg5
  z5 := Tryz.sizeOf5
  v5 := Tryz.zeroValue5
  t9 := Tryz.underlying9
  a9 := Tryz.isAgg9
  z9 := Tryz.sizeOf9
  v9 := Tryz.zeroValue9 }
open Go.RowKit in
theorem Tryz.strings_IndexByte (s : ByteArray) (c : Int) (w : World) :
    Calls Tryz.prog 118 #[.string s, .int .u8 c] w fun e w' => e = .returned (.int .i64 (Lib.indexByte s.data.toList c.toNat.toUInt8)) ∧ w' = w := Any.strings_IndexByte Tryz.lays137 s c w
def Tryz.lays152_ren : Go.Shelf.Ren := ⟨fun | 152 => 113 | 137 => 118 | 119 => 119 | 224 => 120 | 225 => 121 | 217 => 122 | 266 => 123 | n => n, fun | 9 => 9 | 21 => 21 | 3 => 3 | 4 => 4 | 5 => 5 | 0 => 0 | 46 => 149 | n => n, fun | n => n⟩
theorem Tryz.lays152 : Go.Proofs.Lays.n152 Tryz.prog Tryz.lays152_ren := {
  mixed := by kernel_rfl
  f119 := Tryz.func119.trans (congrArg some (by kernel_rfl))
  f137 := Tryz.func118.trans (congrArg some (by kernel_rfl))
  f152 := Tryz.func113.trans (congrArg some (by kernel_rfl))
  f217 := Tryz.func122.trans (congrArg some (by kernel_rfl))
  f224 := Tryz.func120.trans (congrArg some (by kernel_rfl))
  f225 := Tryz.func121.trans (congrArg some (by kernel_rfl))
  f266 := Tryz.func123.trans (congrArg some (by kernel_rfl))
  t0 := Tryz.underlying0
  a0 := Tryz.isAgg0
  z0 := Tryz.sizeOf0
  v0 := Tryz.zeroValue0
  t3 := Tryz.underlying3
  a3 := Tryz.isAgg3
  z3 := Tryz.sizeOf3
  v3 := Tryz.zeroValue3
  t4 := Tryz.underlying4
  a4 := Tryz.isAgg4
  z4 := Tryz.sizeOf4
  v4 := Tryz.zeroValue4
  t5 := Tryz.underlying5
  a5 := Tryz.isAgg5
  z5 := Tryz.sizeOf5
  v5 := Tryz.zeroValue5
  t9 := Tryz.underlying9
  a9 := Tryz.isAgg9
  z9 := Tryz.sizeOf9
  v9 := Tryz.zeroValue9
  t21 := Tryz.underlying21
  a21 := Tryz.isAgg21
  z21 := Tryz.sizeOf21
  v21 := Tryz.zeroValue21
  t46 := Tryz.underlying149
  a46 := Tryz.isAgg149
  z46 := Tryz.sizeOf149
  v46 := Tryz.zeroValue149 }
open Go.RowKit Go.Lib in
theorem Tryz.strings_IndexRune_ascii (s : ByteArray) (r : Int) (w : World) (h0 : 0 ≤ r) (h1 : r < 128) :
    Calls Tryz.prog 113 #[.string s, .int .i32 r] w fun e w' => e = .returned (.int .i64 (Lib.indexByte s.data.toList r.toNat.toUInt8)) ∧ w' = w := Any.strings_IndexRune_ascii Tryz.lays152 s r w h0 h1
def Tryz.lays226_ren : Go.Shelf.Ren := ⟨fun | 226 => 114 | n => n, fun | 3 => 3 | 4 => 4 | n => n, fun | n => n⟩
theorem Tryz.lays226 : Go.Proofs.Lays.n226 Tryz.prog Tryz.lays226_ren := {
  mixed := by kernel_rfl
  f226 := Tryz.func114.trans (congrArg some (by kernel_rfl))
  t3 := Tryz.underlying3
  a3 := Tryz.isAgg3
  z3 := Tryz.sizeOf3
  v3 := Tryz.zeroValue3
  t4 := Tryz.underlying4
  a4 := Tryz.isAgg4
  z4 := Tryz.sizeOf4
  v4 := Tryz.zeroValue4 }
open Go.RowKit Go.Lib in
theorem Tryz.strings_shouldUseASCIISet (n : Int) (w : World) :
    Calls Tryz.prog 114 #[.int .i64 n] w fun e w' => e = .returned (.bool (decide (8 < n))) ∧ w' = w := Any.strings_shouldUseASCIISet Tryz.lays226 n w
def Tryz.lays153_ren : Go.Shelf.Ren := ⟨fun | 153 => 103 | 152 => 113 | 226 => 114 | 227 => 115 | 228 => 116 | 137 => 118 | 119 => 119 | 224 => 120 | 225 => 121 | 217 => 122 | 266 => 123 | n => n, fun | 9 => 9 | 3 => 3 | 4 => 4 | 5 => 5 | 21 => 21 | 117 => 145 | 116 => 144 | 0 => 0 | 46 => 149 | 124 => 150 | n => n, fun | n => n⟩
theorem Tryz.lays153 : Go.Proofs.Lays.n153 Tryz.prog Tryz.lays153_ren := {
  mixed := by kernel_rfl
  f119 := Tryz.func119.trans (congrArg some (by kernel_rfl))
  f137 := Tryz.func118.trans (congrArg some (by kernel_rfl))
  f152 := Tryz.func113.trans (congrArg some (by kernel_rfl))
  f153 := Tryz.func103.trans (congrArg some (by kernel_rfl))
  f217 := Tryz.func122.trans (congrArg some (by kernel_rfl))
  f224 := Tryz.func120.trans (congrArg some (by kernel_rfl))
  f225 := Tryz.func121.trans (congrArg some (by kernel_rfl))
  f226 := Tryz.func114.trans (congrArg some (by kernel_rfl))
  f227 := Tryz.func115.trans (congrArg some (by kernel_rfl))
  f228 := Tryz.func116.trans (congrArg some (by kernel_rfl))
  f266 := Tryz.func123.trans (congrArg some (by kernel_rfl))
  t0 := Tryz.underlying0
  a0 := Tryz.isAgg0
  z0 := Tryz.sizeOf0
  v0 := Tryz.zeroValue0
  t3 := Tryz.underlying3
  a3 := Tryz.isAgg3
  z3 := Tryz.sizeOf3
  v3 := Tryz.zeroValue3
  t4 := Tryz.underlying4
  a4 := Tryz.isAgg4
  z4 := Tryz.sizeOf4
  v4 := Tryz.zeroValue4
  t5 := Tryz.underlying5
  a5 := Tryz.isAgg5
  z5 := Tryz.sizeOf5
  v5 := Tryz.zeroValue5
  t9 := Tryz.underlying9
  a9 := Tryz.isAgg9
  z9 := Tryz.sizeOf9
  v9 := Tryz.zeroValue9
  t21 := Tryz.underlying21
  a21 := Tryz.isAgg21
  z21 := Tryz.sizeOf21
  v21 := Tryz.zeroValue21
  t46 := Tryz.underlying149
  a46 := Tryz.isAgg149
  z46 := Tryz.sizeOf149
  v46 := Tryz.zeroValue149
  t116 := Tryz.underlying144
  a116 := Tryz.isAgg144
  z116 := Tryz.sizeOf144
  t117 := Tryz.underlying145
  a117 := Tryz.isAgg145
  z117 := Tryz.sizeOf145
  v117 := Tryz.zeroValue145
  t124 := Tryz.underlying150
  a124 := Tryz.isAgg150
  z124 := Tryz.sizeOf150
  v124 := Tryz.zeroValue150 }
open Go.RowKit Go.Lib in
theorem Tryz.strings_IndexAny_long (hv116 : ∀ w, (zeroValue 144).run Tryz.prog w = .ok (.agg (Array.replicate 256 (.bool false))) w) (s chars : ByteArray) (w : World) (h2 : 2 ≤ chars.size) (h8 : 8 < s.size) (hs : s.size < 4294967281) (hcs : chars.size < 4294967281) (hascii : ∀ (j : Nat) b, chars.data.toList[j]? = some b → b.toNat < 128) :
    Calls Tryz.prog 103 #[.string s, .string chars] w fun e w' => e = .returned (.int .i64 (Lib.indexAny s.data.toList chars.data.toList)) ∧ w' = ((w.alloc (.cells (Lib.setCells chars.data.toList) 144)).alloc (.cells (Lib.setCells chars.data.toList) 144)) := Any.strings_IndexAny_long Tryz.lays153 hv116 (by kernel_rfl) s chars w h2 h8 hs hcs hascii
end Go.Proofs

namespace Go.Proofs.YtnclnijlpchdnaaGreat
open Go.RowKit

def noName : ByteArray := ⟨#[0, 9, 10, 12, 13, 32, 47, 61, 62, 60, 34, 39]⟩

theorem noName_ascii (j : Nat) (b : UInt8) (h : noName.data.toList[j]? = some b) : b.toNat < 128 := by
  have hm : b ∈ noName.data.toList := List.mem_of_getElem? h
  simp [noName] at hm
  rcases hm with rfl | rfl | rfl | rfl | rfl | rfl | rfl | rfl | rfl | rfl | rfl | rfl <;> decide

theorem indexByte_high (l : List UInt8) (hl : ∀ b ∈ l, b.toNat < 128) (c : UInt8) (hc : 128 ≤ c.toNat) : Lib.indexByte l c = -1 := by
  induction l with
  | nil => rfl
  | cons b l ih =>
    have h1 : (b == c) = false := by rw [beq_eq_false_iff_ne]; intro e; have := hl b (by simp); rw [e] at this; omega
    rw [Lib.indexByte, ih (fun x hx => hl x (by simp [hx])), h1]
    rfl

set_option maxHeartbeats 2000000 in
set_option maxRecDepth 10000 in
theorem indexRune_bad (w : World) :
    Calls Tryz.prog 113 #[.string noName, .int .i32 65533] w fun e w' => e = .returned (.int .i64 (-1)) ∧ Below w.heap.size w w' := by
  unfold noName
  go_enter Tryz.func113, Tryz.ntmps113
  go_wp2
  go_loopg [5, 6] 12 (fun g _ _ wx => ∃ i : Nat, i + g = 12 ∧ wx = w.iter noName i)
  case atStart => exact ⟨0, by omega, rfl⟩
  case round =>
    obtain ⟨i, hig, rfl⟩ := hrel
    cases gk with
    | zero =>
      obtain rfl : i = 12 := by omega
      have hnx := fun ty => run_next_end (P := Tryz.prog) w noName 12 ty (by decide)
      go_wp2
      go_ret
      exact ⟨rfl, (Below.refl _ _).alloc (Nat.le_refl _) _⟩
    | succ g =>
      have hi : i < noName.size := by show i < 12; omega
      have hx : (noName[i]'hi).toNat < 128 := noName_ascii i _ (Lib.data_getElem? noName i hi)
      have hnx := fun ty => run_next_ascii (P := Tryz.prog) w noName i ty hi hx
      have hne : (((noName[i]'hi).toNat : Int) == 65533) = false := beq_eq_false_iff_ne.2 (by omega)
      go_wp2
      go_roundg g
      case measure => omega
      case rel => exact ⟨i + 1, by omega, rfl⟩


set_option maxHeartbeats 2000000 in
set_option maxRecDepth 10000 in
theorem indexRune_valid1 (s : ByteArray) (hs : s.size = 12) (hasc : ∀ b ∈ s.data.toList, b.toNat < 128) (r : Int) (h0 : 128 ≤ r) (hv : Utf8.valid r = true) (hne : r ≠ 65533) (w : World) :
    Calls Tryz.prog 113 #[.string s, .int .i32 r] w fun e w' => e = .returned (.int .i64 (-1)) ∧ Below w.heap.size w w' := by
  obtain ⟨s2, s4, hlast⟩ := encode_facts r hv h0
  have HV := Tryz.utf8_ValidRune r w
  have e1 : Lib.validRune r = true := by rw [← hv, validRune_eq]; rfl
  rw [e1] at HV
  have h65 : (r == 65533) = false := beq_eq_false_iff_ne.2 hne
  have h128 : ¬ r < 128 := by omega
  have h00 : 0 ≤ r := by omega
  generalize he : Utf8.encode r = rs at s2 s4 hlast
  have hI : ∀ (k : Nat) (c : UInt8) (w : World), 128 ≤ c.toNat → Calls Tryz.prog 118 #[.string (s.extract k 12), .int .u8 (c.toNat : Int)] w fun e w' => e = .returned (.int .i64 (-1)) ∧ w = w' := by
    intro k c w hc
    have := Tryz.strings_IndexByte (s.extract k 12) (c.toNat : Int) w
    have hb : ((c.toNat : Int)).toNat.toUInt8 = c := by simp
    rw [hb, indexByte_high _ _ c hc] at this
    · exact this.mono fun e w' ⟨h1, h2⟩ => ⟨h1, h2.symm⟩
    · intro b hb
      exact hasc b (mem_extract hb)
  have hz : rs.size = 2 ∨ rs.size = 3 ∨ rs.size = 4 := by omega
  have hget : ∀ i (h : i < s.size), (s[i]'h).toNat < 128 := fun i h => hasc _ (List.mem_of_getElem? (Lib.data_getElem? s i h))
  clear s2 s4 hasc
  rcases hz with hz | hz | hz
  · have hlt : 1 < rs.size := by omega
    have hc1 : 128 ≤ (rs[1]'hlt).toNat := by have := hlast (by omega); simp only [hz] at this; exact this
    obtain ⟨x, hx⟩ : ∃ x : UInt8, rs[1]'hlt = x := ⟨_, rfl⟩
    have hls : 1 < s.size := by omega
    have hy1 := hget 1 hls
    obtain ⟨y, hy⟩ : ∃ y : UInt8, s[1]'hls = y := ⟨_, rfl⟩
    rw [hx] at hc1
    rw [hy] at hy1
    have HI : Aside _ := fun w => hI 2 x w hc1
    have hn9 : ((y.toNat : Int) != (x.toNat : Int)) = true := by rw [bne_iff_ne]; omega
    clear hlast hI hget hy1 hc1
    go_enter Tryz.func113, Tryz.ntmps113
    go_wp2_with (first
      | (go_at_call 119; refine HV.mono ?_; rintro e w' ⟨rfl, rfl⟩))
    go_step3
    go_wp2
    go_loopg [9, 10] 0 (fun _ s9 s10 wx => s9 = .int .i64 1 ∧ s10 = .int .i64 0 ∧ wx = w')
    case atStart => exact ⟨rfl, rfl, rfl⟩
    case round =>
      obtain ⟨rfl, rfl, rfl⟩ := hrel
      go_wp2
      go_step3
      go_wp2
      go_region
      go_wp2
      go_region_with (go_at_call 118; refine (HI.out _).mono ?_; rintro e w4 ⟨rfl, rfl⟩)
      all_goals go_wp2
      all_goals simp only [Exit.noGoto, Exit.inBlock, Exit.then]
      all_goals go_ret
      all_goals exact ⟨rfl, by repeat (first | exact Below.refl _ _ | apply Below.drew)⟩
  · have hlt : 2 < rs.size := by omega
    have hc1 : 128 ≤ (rs[2]'hlt).toNat := by have := hlast (by omega); simp only [hz] at this; exact this
    obtain ⟨x, hx⟩ : ∃ x : UInt8, rs[2]'hlt = x := ⟨_, rfl⟩
    have hls : 2 < s.size := by omega
    have hy1 := hget 2 hls
    obtain ⟨y, hy⟩ : ∃ y : UInt8, s[2]'hls = y := ⟨_, rfl⟩
    rw [hx] at hc1
    rw [hy] at hy1
    have HI : Aside _ := fun w => hI 3 x w hc1
    have hn9 : ((y.toNat : Int) != (x.toNat : Int)) = true := by rw [bne_iff_ne]; omega
    clear hlast hI hget hy1 hc1
    go_enter Tryz.func113, Tryz.ntmps113
    go_wp2_with (first
      | (go_at_call 119; refine HV.mono ?_; rintro e w' ⟨rfl, rfl⟩))
    go_step3
    go_wp2
    go_loopg [9, 10] 0 (fun _ s9 s10 wx => s9 = .int .i64 2 ∧ s10 = .int .i64 0 ∧ wx = w')
    case atStart => exact ⟨rfl, rfl, rfl⟩
    case round =>
      obtain ⟨rfl, rfl, rfl⟩ := hrel
      go_wp2
      go_step3
      go_wp2
      go_region
      go_wp2
      go_region_with (go_at_call 118; refine (HI.out _).mono ?_; rintro e w4 ⟨rfl, rfl⟩)
      all_goals go_wp2
      all_goals simp only [Exit.noGoto, Exit.inBlock, Exit.then]
      all_goals go_ret
      all_goals exact ⟨rfl, by repeat (first | exact Below.refl _ _ | apply Below.drew)⟩
  · have hlt : 3 < rs.size := by omega
    have hc1 : 128 ≤ (rs[3]'hlt).toNat := by have := hlast (by omega); simp only [hz] at this; exact this
    obtain ⟨x, hx⟩ : ∃ x : UInt8, rs[3]'hlt = x := ⟨_, rfl⟩
    have hls : 3 < s.size := by omega
    have hy1 := hget 3 hls
    obtain ⟨y, hy⟩ : ∃ y : UInt8, s[3]'hls = y := ⟨_, rfl⟩
    rw [hx] at hc1
    rw [hy] at hy1
    have HI : Aside _ := fun w => hI 4 x w hc1
    have hn9 : ((y.toNat : Int) != (x.toNat : Int)) = true := by rw [bne_iff_ne]; omega
    clear hlast hI hget hy1 hc1
    go_enter Tryz.func113, Tryz.ntmps113
    go_wp2_with (first
      | (go_at_call 119; refine HV.mono ?_; rintro e w' ⟨rfl, rfl⟩))
    go_step3
    go_wp2
    go_loopg [9, 10] 0 (fun _ s9 s10 wx => s9 = .int .i64 3 ∧ s10 = .int .i64 0 ∧ wx = w')
    case atStart => exact ⟨rfl, rfl, rfl⟩
    case round =>
      obtain ⟨rfl, rfl, rfl⟩ := hrel
      go_wp2
      go_step3
      go_wp2
      go_region
      go_wp2
      go_region_with (go_at_call 118; refine (HI.out _).mono ?_; rintro e w4 ⟨rfl, rfl⟩)
      all_goals go_wp2
      all_goals simp only [Exit.noGoto, Exit.inBlock, Exit.then]
      all_goals go_ret
      all_goals exact ⟨rfl, by repeat (first | exact Below.refl _ _ | apply Below.drew)⟩
end Go.Proofs.YtnclnijlpchdnaaGreat

namespace Go.Proofs.YtnclnijlpchdnaaGreat
open Go.RowKit Go.Lib

theorem get_data (s : ByteArray) (i : Nat) (b : UInt8) (h : s.data.toList[i]? = some b) : i < s.size ∧ s.get! i = b := by
  obtain ⟨hi, hb⟩ := List.getElem?_eq_some_iff.1 h
  have hi' : i < s.size := by simpa using hi
  refine ⟨hi', ?_⟩
  have := get_at s i hi'
  rw [Nat.add_zero] at this
  rw [this, ← hb]; rfl

theorem decode_cover (s : ByteArray) (pos : Nat) (h : pos < s.size) (ha : 128 ≤ (s[pos]'h).toNat) :
    pos + (Utf8.decode s pos).2 ≤ s.size ∧ (∀ j b, j < (Utf8.decode s pos).2 → s.data.toList[pos + j]? = some b → 128 ≤ b.toNat) ∧ ((Utf8.decode s pos).1 = 65533 ∨ Utf8.valid (Utf8.decode s pos).1 = true) := by
  have hn : ¬ (s[pos]'h).toNat < 128 := by omega
  have hg : ∀ j b, s.data.toList[pos + j]? = some b → s.get! (pos + j) = b := fun j b hb => (get_data s (pos + j) b hb).2
  have one : ∀ j b, j < 1 → s.data.toList[pos + j]? = some b → 128 ≤ b.toNat := by
    intro j b hj hb
    obtain rfl : j = 0 := by omega
    have h1 := hg 0 b hb
    rw [get_at s pos h] at h1
    rw [← h1]; exact ha
  have step : ∀ (k : Nat), (pos + k < s.size && (s.get! (pos + k)).toNat / 64 == 2) = true → pos + k < s.size ∧ ∀ b, s.data.toList[pos + k]? = some b → 128 ≤ b.toNat := by
    intro k hk
    simp only [Bool.and_eq_true, decide_eq_true_eq, beq_iff_eq] at hk
    refine ⟨hk.1, fun b hb => ?_⟩
    have := hg k b hb
    rw [this] at hk
    omega
  simp only [Utf8.decode, get_at s pos h, hn, if_false]
  split
  · rename_i hc
    rw [Bool.and_eq_true] at hc
    obtain ⟨s1, b1⟩ := step 1 hc.2
    split
    · rename_i hc2
      refine ⟨by show pos + 2 ≤ s.size; omega, ?_, .inr ?_⟩
      · intro j b hj hb
        change j < 2 at hj
        rcases (by omega : j = 0 ∨ j = 1) with rfl | rfl
        · exact one 0 b (by omega) hb
        · exact b1 b hb
      · have h0 : (s[pos]'h).toNat < 256 := (s[pos]'h).toNat_lt
        simp only [Utf8.valid, Bool.or_eq_true, Bool.and_eq_true, decide_eq_true_eq]
        left
        constructor
        · omega
        · omega
    · exact ⟨by show pos + 1 ≤ s.size; omega, one, .inl rfl⟩
  · split
    · rename_i hc
      simp only [Bool.and_eq_true] at hc
      obtain ⟨s1, b1⟩ := step 1 (by simpa using hc.1.2)
      obtain ⟨s2, b2⟩ := step 2 (by simpa using hc.2)
      split
      · rename_i hc2
        rw [Bool.and_eq_true] at hc2
        refine ⟨by show pos + 3 ≤ s.size; omega, ?_, .inr hc2.2⟩
        intro j b hj hb
        change j < 3 at hj
        rcases (by omega : j = 0 ∨ j = 1 ∨ j = 2) with rfl | rfl | rfl
        · exact one 0 b (by omega) hb
        · exact b1 b hb
        · exact b2 b hb
      · exact ⟨by show pos + 1 ≤ s.size; omega, one, .inl rfl⟩
    · split
      · rename_i hc
        simp only [Bool.and_eq_true] at hc
        obtain ⟨s1, b1⟩ := step 1 (by simpa using hc.1.1.2)
        obtain ⟨s2, b2⟩ := step 2 (by simpa using hc.1.2)
        obtain ⟨s3, b3⟩ := step 3 (by simpa using hc.2)
        split
        · rename_i hc2
          rw [Bool.and_eq_true] at hc2
          refine ⟨by show pos + 4 ≤ s.size; omega, ?_, .inr hc2.2⟩
          intro j b hj hb
          change j < 4 at hj
          rcases (by omega : j = 0 ∨ j = 1 ∨ j = 2 ∨ j = 3) with rfl | rfl | rfl | rfl
          · exact one 0 b (by omega) hb
          · exact b1 b hb
          · exact b2 b hb
          · exact b3 b hb
        · exact ⟨by show pos + 1 ≤ s.size; omega, one, .inl rfl⟩
      · exact ⟨by show pos + 1 ≤ s.size; omega, one, .inl rfl⟩

theorem noName_mem (b : UInt8) (h : b ∈ noName.data.toList) : b.toNat < 128 := by
  obtain ⟨j, hj⟩ := List.mem_iff_getElem?.1 h
  exact noName_ascii j b hj

/-- What IndexRune answers of the code point that stands at a place. -/
theorem indexRune_at (s : ByteArray) (i : Nat) (hi : i < s.size) (w : World) :
    ∃ v : Int, (Calls Tryz.prog 113 #[.string noName, .int .i32 ((Utf8.decode s i).1 : Int)] w fun e w' => e = .returned (.int .i64 v) ∧ Below w.heap.size w w') ∧
      ((0 ≤ v ∧ noName.data.toList.contains (s[i]'hi) = true) ∨ (v = -1 ∧ i + (Utf8.decode s i).2 ≤ s.size ∧ 1 ≤ (Utf8.decode s i).2 ∧ ∀ j b, j < (Utf8.decode s i).2 → s.data.toList[i + j]? = some b → noName.data.toList.contains b = false)) := by
  by_cases ha : (s[i]'hi).toNat < 128
  · rw [decode_ascii s i hi ha]
    have hb : (((s[i]'hi).toNat : Int)).toNat.toUInt8 = s[i]'hi := by simp
    have hc := Tryz.strings_IndexRune_ascii noName ((s[i]'hi).toNat : Int) w (by omega) (by omega)
    rw [hb] at hc
    refine ⟨_, hc.mono fun e w' ⟨h1, h2⟩ => ⟨h1, h2 ▸ Below.refl _ _⟩, ?_⟩
    have hcon := Lib.contains_iff_indexByte noName.data.toList (s[i]'hi)
    cases hin : noName.data.toList.contains (s[i]'hi) with
    | true =>
      rw [hin] at hcon
      exact .inl ⟨of_decide_eq_true hcon.symm, rfl⟩
    | false =>
      rw [hin] at hcon
      have h1 := of_decide_eq_false hcon.symm
      have h2 : -1 ≤ Lib.indexByte noName.data.toList (s[i]'hi) := by
        have := Lib.indexAny_ge [s[i]'hi] noName.data.toList
        rw [Lib.indexAny_one] at this; exact this
      refine .inr ⟨by omega, by show i + 1 ≤ s.size; omega, Nat.le_refl _, fun j b hj hbj => ?_⟩
      obtain rfl : j = 0 := by change j < 1 at hj; omega
      have := Lib.data_getElem? s i hi
      rw [Nat.add_zero, this] at hbj
      cases hbj; exact hin
  · have hh := decode_high s i hi (by omega)
    obtain ⟨c1, c2, c3⟩ := decode_cover s i hi (by omega)
    have far : ∀ j b, j < (Utf8.decode s i).2 → s.data.toList[i + j]? = some b → noName.data.toList.contains b = false := by
      intro j b hj hb
      have := c2 j b hj hb
      rw [Bool.eq_false_iff]; intro hm
      have := noName_mem b (by simpa using hm); omega
    by_cases hb : (Utf8.decode s i).1 = 65533
    · refine ⟨-1, ?_, .inr ⟨rfl, c1, hh.2, far⟩⟩
      rw [hb]; exact indexRune_bad w
    · refine ⟨-1, ?_, .inr ⟨rfl, c1, hh.2, far⟩⟩
      refine indexRune_valid1 noName rfl noName_mem _ (by omega) ?_ (by omega) w
      rcases c3 with h | h
      · exact absurd h hb
      · exact h

theorem below_iterAt {B : Nat} {a w : World} (h : Below B a w) (k : Nat) (hk : B ≤ k) (s : ByteArray) (pos : Nat) : Below B a (w.iterAt k s pos) :=
  h.trans ⟨rfl, rfl, rfl, by simp [World.iterAt], fun j hj => by simp only [World.iterAt]; rw [Array.getElem?_setIfInBounds_ne (by omega)]⟩

set_option maxHeartbeats 4000000 in
set_option maxRecDepth 10000 in
theorem indexAny_short (s : ByteArray) (w : World) (h8 : s.size ≤ 8) :
    Calls Tryz.prog 103 #[.string s, .string noName] w fun e w' => e = .returned (.int .i64 (Lib.indexAny s.data.toList noName.data.toList)) ∧ Below w.heap.size w w' := by
  have h8z : decide ((8 : Int) < (s.size : Int)) = false := decide_eq_false (by omega)
  generalize hnn : noName = cs
  have hcz : cs.size = 12 := by rw [← hnn]; rfl
  have hemp : cs.toList.isEmpty = false := by rw [← hnn, Lib.toList_data]; rfl
  have hat : ∀ i (hi : i < s.size) w, ∃ v : Int, (Calls Tryz.prog 113 #[.string cs, .int .i32 ((Utf8.decode s i).1 : Int)] w fun e w' => e = .returned (.int .i64 v) ∧ Below w.heap.size w w') ∧
      ((0 ≤ v ∧ cs.data.toList.contains (s[i]'hi) = true) ∨ (v = -1 ∧ i + (Utf8.decode s i).2 ≤ s.size ∧ 1 ≤ (Utf8.decode s i).2 ∧ ∀ j b, j < (Utf8.decode s i).2 → s.data.toList[i + j]? = some b → cs.data.toList.contains b = false)) := by
    rw [← hnn]; exact indexRune_at s
  have HAT : Aside _ := hat
  clear hat hnn
  go_enter Tryz.func103, Tryz.ntmps103
  go_wp2_with (go_at_call 114; refine (Tryz.strings_shouldUseASCIISet _ _).mono ?_; rintro e w' ⟨rfl, hw⟩; rw [hw, h8z])
  go_loopg [9, 10] s.size (fun g _ _ wx => ∃ i : Nat, i + g = s.size ∧ wx.heap[w.heap.size]? = some (.stringIter s i) ∧ Below w.heap.size w wx ∧ Lib.NoAny s.data.toList cs.data.toList i)
  case atStart => exact ⟨0, by omega, World.iter_heap w s 0, (Below.refl _ _).alloc (Nat.le_refl _) _, Lib.NoAny.zero _ _⟩
  case round =>
    obtain ⟨i, hig, hk, hb, hno⟩ := hrel
    have HN : Aside (Lib.NoAny s.data.toList cs.data.toList i) := hno
    have HB : Aside (Below w.heap.size w wr) := hb
    clear hno hb
    by_cases hi : i < s.size
    · have hnx := fun ty => run_next_any_at (P := Tryz.prog) wr w.heap.size s i ty hk hi
      have hk2 := iterAt_heap wr w.heap.size s i (i + (Utf8.decode s i).2) hk
      have HB2 : Aside (Below w.heap.size w (wr.iterAt w.heap.size s (i + (Utf8.decode s i).2))) := below_iterAt HB.out _ (Nat.le_refl _) _ _
      obtain ⟨v, hv, hr⟩ := HAT.out i hi (wr.iterAt w.heap.size s (i + (Utf8.decode s i).2))
      have HV : Aside (Calls Tryz.prog 113 #[.string cs, .int .i32 ((Utf8.decode s i).1 : Int)] (wr.iterAt w.heap.size s (i + (Utf8.decode s i).2)) fun e w' => e = .returned (.int .i64 v) ∧ Below (wr.iterAt w.heap.size s (i + (Utf8.decode s i).2)).heap.size (wr.iterAt w.heap.size s (i + (Utf8.decode s i).2)) w') := hv
      have HR : Aside _ := hr
      clear hv hr
      rcases HR.out with ⟨h0, hin⟩ | ⟨rfl, hle, h1, hfar⟩
      · go_wp2_with (go_at_call 113; refine HV.out.mono ?_; rintro e w' ⟨rfl, hw⟩)
        go_ret
        exact ⟨by rw [Lib.indexAny_hit HN.out (Lib.data_getElem? s i hi) hin]; rfl, HB2.out.trans (hw.mono HB2.out.size)⟩
      · have HF : Aside _ := hfar
        clear hfar
        go_wp2_with (go_at_call 113; refine HV.out.mono ?_; rintro e w' ⟨rfl, hw⟩)
        go_roundg (s.size - (i + (Utf8.decode s i).2))
        case measure => omega
        case rel =>
          refine ⟨i + (Utf8.decode s i).2, by omega, (hw.block _ ?_).trans hk2, HB2.out.trans (hw.mono HB2.out.size), ?_⟩
          · exact lt_of_block hk2
          · intro j b hj hb
            by_cases hji : j < i
            · exact HN.out j b hji hb
            · have := HF.out (j - i) b (by omega)
              rw [show i + (j - i) = j by omega] at this
              exact this hb
    · obtain rfl : i = s.size := by omega
      have hnx := fun ty => run_next_end_at (P := Tryz.prog) wr w.heap.size s s.size ty hk (by omega)
      go_wp2
      go_ret
      exact ⟨by rw [Lib.indexAny_none (by rw [← Lib.size_eq]; exact HN.out)]; rfl, HB.out⟩
end Go.Proofs.YtnclnijlpchdnaaGreat

namespace Go.Proofs.YtnclnijlpchdnaaGreat
open Go.RowKit Go.Lib

theorem zero188 : (Tryz.prog.info? 144).map (fun i => (i.zero, i.size)) = some (some (.agg (Array.replicate 256 (.bool false))), 256) := by kernel_rfl

theorem indexAny_any (s : ByteArray) (w : World) (hs : s.size ≤ 100) :
    Calls Tryz.prog 103 #[.string s, .string noName] w fun e w' => e = .returned (.int .i64 (Lib.indexAny s.data.toList noName.data.toList)) ∧ Below w.heap.size w w' := by
  by_cases h8 : s.size ≤ 8
  · exact indexAny_short s w h8
  · refine (Tryz.strings_IndexAny_long (zero_of_info zero188).1 s noName w (by decide) (by omega) (by omega) (by decide) noName_ascii).mono fun e w' ⟨h1, h2⟩ => ⟨h1, ?_⟩
    rw [h2]
    exact ((Below.refl _ _).alloc (Nat.le_refl _) _).alloc (by simp) _

def nameM (s : ByteArray) : Bool := decide (1 ≤ s.size ∧ s.size ≤ 100) && !(s.data.toList.any fun b => noName.data.toList.contains b)

theorem containsAny_eq (l cs : List UInt8) : Lib.containsAny l cs = l.any fun b => cs.contains b := by
  unfold Lib.containsAny
  induction l with
  | nil => rfl
  | cons b l ih =>
    rw [Lib.indexAny, List.any_cons]
    cases h : cs.contains b with
    | true => simp
    | false =>
      simp only [Bool.false_or]
      rw [← ih]
      have := Lib.indexAny_ge cs l
      by_cases h1 : Lib.indexAny l cs = -1
      · simp [h1]
      · have e : (Lib.indexAny l cs == -1) = false := beq_eq_false_iff_ne.2 h1
        simp only [e, Bool.false_eq_true, if_false]
        rw [decide_eq_decide]; omega

set_option maxHeartbeats 1000000 in
theorem containsAny_any (s : ByteArray) (w : World) (hs : s.size ≤ 100) :
    Calls Tryz.prog 83 #[.string s, .string noName] w fun e w' => e = .returned (.bool (s.data.toList.any fun b => noName.data.toList.contains b)) ∧ Below w.heap.size w w' := by
  have hc := indexAny_any s w hs
  rw [← containsAny_eq]
  generalize noName = cs at hc ⊢
  go_enter Tryz.func83, Tryz.ntmps83
  go_wp2_with (go_at_call 103; refine hc.mono ?_; rintro e w' ⟨rfl, hw⟩)
  go_ret
  exact ⟨rfl, hw⟩

set_option maxHeartbeats 1000000 in
theorem name_any (s : ByteArray) (w : World) (hm : s.size ≤ maxLen) :
    Calls Tryz.prog 39 #[.string s] w fun e w' => e = .returned (.bool (nameM s)) ∧ Below w.heap.size w w' := by
  unfold maxLen at hm
  have HC : s.size ≤ 100 → Aside (Calls Tryz.prog 83 #[.string s, .string ⟨#[0, 9, 10, 12, 13, 32, 47, 61, 62, 60, 34, 39]⟩] w fun e w' => e = .returned (.bool (s.data.toList.any fun b => noName.data.toList.contains b)) ∧ Below w.heap.size w w') := fun h => containsAny_any s w h
  cases hl : s.data.toList with
  | nil =>
    have hz : s.size = 0 := by rw [Lib.size_eq, hl]; rfl
    have hemp : s.toList.isEmpty = true := by rw [Lib.toList_data, hl]; rfl
    have : nameM s = false := by simp [nameM, hz]
    rw [this]
    clear HC
    go_enter Tryz.func39, Tryz.ntmps39
    go_wp2
    all_goals go_ret
    all_goals exact ⟨rfl, Below.refl _ _⟩
  | cons b l =>
    have hz : 1 ≤ s.size := by rw [Lib.size_eq, hl]; simp
    have hemp : s.toList.isEmpty = false := by rw [Lib.toList_data, hl]; rfl
    rw [hl] at HC
    by_cases h100 : s.size ≤ 100
    · have : nameM s = !((b :: l).any fun b => noName.data.toList.contains b) := by simp only [nameM, hz, h100, hl]; simp
      rw [this]
      have HC1 := HC h100
      generalize ((b :: l).any fun b => noName.data.toList.contains b) = q at HC1 ⊢
      clear HC hl
      have h1 : (s.size : Int) ≤ 100 := by omega
      go_enter Tryz.func39, Tryz.ntmps39
      go_wp2_with (go_at_call 83; refine HC1.out.mono ?_; rintro e w' ⟨rfl, hw⟩)
      all_goals go_ret
      all_goals exact ⟨rfl, hw⟩
    · have : nameM s = false := by simp [nameM, h100]
      rw [this]
      have h1 : ¬ (s.size : Int) ≤ 100 := by omega
      clear HC hl
      go_enter Tryz.func39, Tryz.ntmps39
      go_wp2
      all_goals go_ret
      all_goals exact ⟨rfl, Below.refl _ _⟩
end Go.Proofs.YtnclnijlpchdnaaGreat
