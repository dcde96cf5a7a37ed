/-
  strings.IndexRune of a code point beyond ASCII in the bytes that no name has: there is none.
-/
import Derived.Test.YtlbkoafeedlfaaaRows
import Derived.Test.YtlbkoafeedlfaaaShelf
import Derived.WalkKit
import Derived.WalkSpells
import Derived.WalkLawsBesides
import Derived.Laws.Runes
import Derived.WalkMore
import Derived.Laws.RangeAny
namespace Go.Proofs.Ytlbkoafeedlfaaa
open Go.RowKit

def noName : ByteArray := ⟨#[0, 9, 10, 12, 13, 32, 47, 61, 62, 60, 34, 39]⟩

theorem noName_ascii (j : Nat) (b : UInt8) (h : noName.data.toList[j]? = some b) : b.toNat < 128 := by
  have hm : b ∈ noName.data.toList := List.mem_of_getElem? h
  simp [noName] at hm
  rcases hm with rfl | rfl | rfl | rfl | rfl | rfl | rfl | rfl | rfl | rfl | rfl | rfl <;> decide

theorem indexByte_high (l : List UInt8) (hl : ∀ b ∈ l, b.toNat < 128) (c : UInt8) (hc : 128 ≤ c.toNat) : Lib.indexByte l c = -1 := by
  induction l with
  | nil => rfl
  | cons b l ih =>
    have h1 : (b == c) = false := by rw [beq_eq_false_iff_ne]; intro e; have := hl b (by simp); rw [e] at this; omega
    rw [Lib.indexByte, ih (fun x hx => hl x (by simp [hx])), h1]
    rfl

set_option maxHeartbeats 2000000 in
set_option maxRecDepth 10000 in
theorem indexRune_bad (w : World) :
    Calls Try.prog 152 #[.string noName, .int .i32 65533] w fun e w' => e = .returned (.int .i64 (-1)) ∧ Below w.heap.size w w' := by
  unfold noName
  go_enter Try.func152, Try.ntmps152
  go_wp2
  go_loopg [5, 6] 12 (fun g _ _ wx => ∃ i : Nat, i + g = 12 ∧ wx = w.iter noName i)
  case atStart => exact ⟨0, by omega, rfl⟩
  case round =>
    obtain ⟨i, hig, rfl⟩ := hrel
    cases gk with
    | zero =>
      obtain rfl : i = 12 := by omega
      have hnx := fun ty => run_next_end (P := Try.prog) w noName 12 ty (by decide)
      go_wp2
      go_ret
      exact ⟨rfl, (Below.refl _ _).alloc (Nat.le_refl _) _⟩
    | succ g =>
      have hi : i < noName.size := by show i < 12; omega
      have hx : (noName[i]'hi).toNat < 128 := noName_ascii i _ (Lib.data_getElem? noName i hi)
      have hnx := fun ty => run_next_ascii (P := Try.prog) w noName i ty hi hx
      have hne : (((noName[i]'hi).toNat : Int) == 65533) = false := beq_eq_false_iff_ne.2 (by omega)
      go_wp2
      go_roundg g
      case measure => omega
      case rel => exact ⟨i + 1, by omega, rfl⟩


set_option maxHeartbeats 2000000 in
set_option maxRecDepth 10000 in
theorem indexRune_valid1 (s : ByteArray) (hs : s.size = 12) (hasc : ∀ b ∈ s.data.toList, b.toNat < 128) (r : Int) (h0 : 128 ≤ r) (hv : Utf8.valid r = true) (hne : r ≠ 65533) (w : World) :
    Calls Try.prog 152 #[.string s, .int .i32 r] w fun e w' => e = .returned (.int .i64 (-1)) ∧ Below w.heap.size w w' := by
  obtain ⟨s2, s4, hlast⟩ := encode_facts r hv h0
  have HV := Try.utf8_ValidRune r w
  have e1 : Lib.validRune r = true := by rw [← hv, validRune_eq]; rfl
  rw [e1] at HV
  have h65 : (r == 65533) = false := beq_eq_false_iff_ne.2 hne
  have h128 : ¬ r < 128 := by omega
  have h00 : 0 ≤ r := by omega
  generalize he : Utf8.encode r = rs at s2 s4 hlast
  have hI : ∀ (k : Nat) (c : UInt8) (w : World), 128 ≤ c.toNat → Calls Try.prog 158 #[.string (s.extract k 12), .int .u8 (c.toNat : Int)] w fun e w' => e = .returned (.int .i64 (-1)) ∧ w = w' := by
    intro k c w hc
    have := Try.strings_IndexByte (s.extract k 12) (c.toNat : Int) w
    have hb : ((c.toNat : Int)).toNat.toUInt8 = c := by simp
    rw [hb, indexByte_high _ _ c hc] at this
    · exact this.mono fun e w' ⟨h1, h2⟩ => ⟨h1, h2.symm⟩
    · intro b hb
      exact hasc b (mem_extract hb)
  have hz : rs.size = 2 ∨ rs.size = 3 ∨ rs.size = 4 := by omega
  have hget : ∀ i (h : i < s.size), (s[i]'h).toNat < 128 := fun i h => hasc _ (List.mem_of_getElem? (Lib.data_getElem? s i h))
  clear s2 s4 hasc
  rcases hz with hz | hz | hz
  · have hlt : 1 < rs.size := by omega
    have hc1 : 128 ≤ (rs[1]'hlt).toNat := by have := hlast (by omega); simp only [hz] at this; exact this
    obtain ⟨x, hx⟩ : ∃ x : UInt8, rs[1]'hlt = x := ⟨_, rfl⟩
    have hls : 1 < s.size := by omega
    have hy1 := hget 1 hls
    obtain ⟨y, hy⟩ : ∃ y : UInt8, s[1]'hls = y := ⟨_, rfl⟩
    rw [hx] at hc1
    rw [hy] at hy1
    have HI : Aside _ := fun w => hI 2 x w hc1
    have hn9 : ((y.toNat : Int) != (x.toNat : Int)) = true := by rw [bne_iff_ne]; omega
    clear hlast hI hget hy1 hc1
    go_enter Try.func152, Try.ntmps152
    go_wp2_with (first
      | (go_at_call 159; refine HV.mono ?_; rintro e w' ⟨rfl, rfl⟩))
    go_step3
    go_wp2
    go_loopg [9, 10] 0 (fun _ s9 s10 wx => s9 = .int .i64 1 ∧ s10 = .int .i64 0 ∧ wx = w')
    case atStart => exact ⟨rfl, rfl, rfl⟩
    case round =>
      obtain ⟨rfl, rfl, rfl⟩ := hrel
      go_wp2
      go_step3
      go_wp2
      go_region
      go_wp2
      go_region_with (go_at_call 158; refine (HI.out _).mono ?_; rintro e w4 ⟨rfl, rfl⟩)
      all_goals go_wp2
      all_goals simp only [Exit.noGoto, Exit.inBlock, Exit.then]
      all_goals go_ret
      all_goals exact ⟨rfl, by repeat (first | exact Below.refl _ _ | apply Below.drew)⟩
  · have hlt : 2 < rs.size := by omega
    have hc1 : 128 ≤ (rs[2]'hlt).toNat := by have := hlast (by omega); simp only [hz] at this; exact this
    obtain ⟨x, hx⟩ : ∃ x : UInt8, rs[2]'hlt = x := ⟨_, rfl⟩
    have hls : 2 < s.size := by omega
    have hy1 := hget 2 hls
    obtain ⟨y, hy⟩ : ∃ y : UInt8, s[2]'hls = y := ⟨_, rfl⟩
    rw [hx] at hc1
    rw [hy] at hy1
    have HI : Aside _ := fun w => hI 3 x w hc1
    have hn9 : ((y.toNat : Int) != (x.toNat : Int)) = true := by rw [bne_iff_ne]; omega
    clear hlast hI hget hy1 hc1
    go_enter Try.func152, Try.ntmps152
    go_wp2_with (first
      | (go_at_call 159; refine HV.mono ?_; rintro e w' ⟨rfl, rfl⟩))
    go_step3
    go_wp2
    go_loopg [9, 10] 0 (fun _ s9 s10 wx => s9 = .int .i64 2 ∧ s10 = .int .i64 0 ∧ wx = w')
    case atStart => exact ⟨rfl, rfl, rfl⟩
    case round =>
      obtain ⟨rfl, rfl, rfl⟩ := hrel
      go_wp2
      go_step3
      go_wp2
      go_region
      go_wp2
      go_region_with (go_at_call 158; refine (HI.out _).mono ?_; rintro e w4 ⟨rfl, rfl⟩)
      all_goals go_wp2
      all_goals simp only [Exit.noGoto, Exit.inBlock, Exit.then]
      all_goals go_ret
      all_goals exact ⟨rfl, by repeat (first | exact Below.refl _ _ | apply Below.drew)⟩
  · have hlt : 3 < rs.size := by omega
    have hc1 : 128 ≤ (rs[3]'hlt).toNat := by have := hlast (by omega); simp only [hz] at this; exact this
    obtain ⟨x, hx⟩ : ∃ x : UInt8, rs[3]'hlt = x := ⟨_, rfl⟩
    have hls : 3 < s.size := by omega
    have hy1 := hget 3 hls
    obtain ⟨y, hy⟩ : ∃ y : UInt8, s[3]'hls = y := ⟨_, rfl⟩
    rw [hx] at hc1
    rw [hy] at hy1
    have HI : Aside _ := fun w => hI 4 x w hc1
    have hn9 : ((y.toNat : Int) != (x.toNat : Int)) = true := by rw [bne_iff_ne]; omega
    clear hlast hI hget hy1 hc1
    go_enter Try.func152, Try.ntmps152
    go_wp2_with (first
      | (go_at_call 159; refine HV.mono ?_; rintro e w' ⟨rfl, rfl⟩))
    go_step3
    go_wp2
    go_loopg [9, 10] 0 (fun _ s9 s10 wx => s9 = .int .i64 3 ∧ s10 = .int .i64 0 ∧ wx = w')
    case atStart => exact ⟨rfl, rfl, rfl⟩
    case round =>
      obtain ⟨rfl, rfl, rfl⟩ := hrel
      go_wp2
      go_step3
      go_wp2
      go_region
      go_wp2
      go_region_with (go_at_call 158; refine (HI.out _).mono ?_; rintro e w4 ⟨rfl, rfl⟩)
      all_goals go_wp2
      all_goals simp only [Exit.noGoto, Exit.inBlock, Exit.then]
      all_goals go_ret
      all_goals exact ⟨rfl, by repeat (first | exact Below.refl _ _ | apply Below.drew)⟩
end Go.Proofs.Ytlbkoafeedlfaaa
