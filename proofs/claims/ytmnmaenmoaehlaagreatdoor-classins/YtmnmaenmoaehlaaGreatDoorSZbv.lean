/-
  Both arenas are made of nodes that came in: pages.
-/
import Derived.Test.YtmnmaenmoaehlaaGreatDoorSZbu
namespace Go.Proofs.YtmnmaenmoaehlaaGreatDoor
open Go.RowKit Go.Lib

theorem p2_new {w w1 w2 : World} {bA bR g cap : Nat} {F : Nat → Prop} (ha : ArS w1 w.heap.size bA [blankM 0] F) (hb : Below w.heap.size w w1) (hr : Rf w2 w.heap.size bR g cap [oneR 0]) (hb2 : Below w1.heap.size w1 w2) (h1 : w1.heap.size ≤ bR) (h2 : w1.heap.size ≤ g) : P2 w w2 bA bR [oneM 0] [oneM 0] := by
  refine ⟨hb.trans (hb2.mono hb.size), [blankM 0], F, footR bR g [oneR 0], ha.mod (Mod.of_below hb2) (fun _ _ e => e), Sim.new, ⟨g, cap, _, hr, rfl, fun _ => Iff.rfl⟩, ⟨_, Sim.new⟩, fun k hk hg => ?_⟩
  have hlt := (ha.lt hk).2
  rcases hg with rfl | rfl | ⟨r, hr', hk'⟩
  · omega
  · omega
  · simp at hr'; subst hr'; simp [oneR, blk] at hk'

def nmOf (i : Nat) : ByteArray := if i = 0 then ⟨#[104, 116, 109, 108]⟩ else if i = 1 then ⟨#[104, 101, 97, 100]⟩ else ⟨#[98, 111, 100, 121]⟩
def fixN (body : List AttrM) : Nat → List OneM
  | 0 => [oneM 0]
  | i + 1 => fixO (fixN body i) (nmOf i) (if i = 2 then body else []) (if i = 0 then 0 else 1)
def pagesO (body : List AttrM) (l : List ElM) : List OneM := (l.take 300).foldl stepO (fixN body 3)
theorem ext_fixN (body : List AttrM) : ∀ i, Ext (fixN body i)
  | 0 => ext_new
  | i + 1 => ext_fix (ext_fixN body i) _ _ _
theorem pg_fixN (body : List AttrM) : ∀ i, PgO (fixN body i)
  | 0 => pg_new
  | i + 1 => pg_fix (pg_fixN body i) _ _ _
theorem fixN_len (body : List AttrM) : ∀ i, (fixN body i).length ≤ 1 + 2 * i
  | 0 => by simp [fixN]
  | i + 1 => by
    have h1 := fixN_len body i
    have h2 := fix_len (fixN body i) (nmOf i) (if i = 2 then body else []) (if i = 0 then 0 else 1)
    rw [fixN]; omega

set_option maxHeartbeats 8000000 in
set_option maxRecDepth 10000 in
theorem pages_any (body : List AttrM) (la : Option Addr) (lc : Nat) (l : List ElM) (a : Option Addr) (cap : Nat) (w : World) (hbd : AttrsIn w la body) (hbl : body.length ≤ maxLen) (hin : ElsIn w a l) (hl : l.length ≤ maxLen) :
    Calls Tryz.prog 4 #[.slice la body.length lc, .slice a l.length cap] w fun e w' => ∃ bA bR, e = .returned (.tuple #[.pointer (some ⟨bA, 0, none⟩), .pointer (some ⟨bR, 0, none⟩)]) ∧ P2 w w' bA bR (pagesO body l) (pagesO body l) ∧ Ext (pagesO body l) ∧ PgO (pagesO body l) ∧ (pagesO body l).length ≤ 607 := by
  have HIN := hidE hin
  have HBD := hidE (fun W (hW : Below w.heap.size w W) => hbd.below hW)
  have hlz : (l.length : Int) ≤ 9223372036854775807 := by unfold maxLen at hl; omega
  have HNEW := hidE (new_any w w.heap.size (Nat.le_refl _))
  have HRN := hidE (fun W (hW : w.heap.size ≤ W.heap.size) => refNew_any W w.heap.size hW)
  clear hin hl hbd
  go_enter Tryz.func4, Tryz.ntmps4
  go_wp2_with (first
    | (go_at_call 10; refine (unhidE HNEW).mono ?_; rintro e w1 ⟨F, rfl, ha1, hb1, hF1⟩; have HA1 := hidE ha1; have HB1 := hidE hb1; clear ha1 hb1 hF1)
    | (go_at_call 11; refine ((unhidE HRN) _ (unhidE HB1).size).mono ?_; rintro e w2 ⟨bR, g, cp, rfl, hr2, hb2, h1, h2⟩; have HST := hidE (p2_new (unhidE HA1) (unhidE HB1) hr2 hb2 h1 h2); clear hr2 hb2 h1 h2))
  obtain ⟨bA, hbA⟩ : ∃ b, w.heap.size + 3 = b := ⟨_, rfl⟩
  rw [hbA] at HST
  rw [hbA]
  clear hbA HA1 HB1
  have HK0 := hidE ((unhidE HST).beside (.cells #[.string ⟨#[104, 116, 109, 108]⟩, .string ⟨#[104, 101, 97, 100]⟩, .string ⟨#[98, 111, 100, 121]⟩] 9))
  clear HST
  generalize w2.heap.size = nb at HK0
  go_loopg [9, 10, 11, 12, 13] 3 (fun k s9 _ _ _ _ wx => ∃ i : Nat, s9 = .int .i64 i ∧ i + k = 3 ∧ K2 w wx bA bR (fixN body i) (fixN body i) nb (.cells #[.string ⟨#[104, 116, 109, 108]⟩, .string ⟨#[104, 101, 97, 100]⟩, .string ⟨#[98, 111, 100, 121]⟩] 9))
  case atStart => exact ⟨0, rfl, by omega, unhidE HK0⟩
  case round =>
    obtain ⟨i, rfl, hik, hst⟩ := hrel
    clear HK0
    have HKC : Hid (∀ W oa ob, K2 w W bA bR oa ob nb (.cells #[.string ⟨#[104, 116, 109, 108]⟩, .string ⟨#[104, 101, 97, 100]⟩, .string ⟨#[98, 111, 100, 121]⟩] 9) → W.cell? ⟨nb, 0, none⟩ = some (.string ⟨#[104, 116, 109, 108]⟩) ∧ W.cell? ⟨nb, 1, none⟩ = some (.string ⟨#[104, 101, 97, 100]⟩) ∧ W.cell? ⟨nb, 2, none⟩ = some (.string ⟨#[98, 111, 100, 121]⟩)) := hidE (fun W oa ob h => ⟨cell_row _ _ 0 _ _ _ h.block, cell_row _ _ 1 _ _ _ h.block, cell_row _ _ 2 _ _ _ h.block⟩)
    obtain ⟨n0, n1, n2⟩ := (unhidE HKC) _ _ _ hst
    have hi4 : i = 0 ∨ i = 1 ∨ i = 2 ∨ i = 3 := by omega
    rcases hi4 with rfl | rfl | rfl | rfl
    · have HE1 : Hid (Calls Tryz.prog 12 #[.pointer (some ⟨bA, 0, none⟩), .int .i64 0, .string ⟨#[104, 116, 109, 108]⟩, .slice none 0 0] wr fun e w' => e = .returned (.tuple #[.int .i64 (elemO (fixN body 0) 0 ⟨#[104, 116, 109, 108]⟩ []).2.1, .int .i64 (elemO (fixN body 0) 0 ⟨#[104, 116, 109, 108]⟩ []).2.2]) ∧ K2 w w' bA bR (elemO (fixN body 0) 0 ⟨#[104, 116, 109, 108]⟩ []).1 (fixN body 0) nb (.cells #[.string ⟨#[104, 116, 109, 108]⟩, .string ⟨#[104, 101, 97, 100]⟩, .string ⟨#[98, 111, 100, 121]⟩] 9)) := hidE (hst.elem 0 ⟨#[104, 116, 109, 108]⟩ none 0 [] ⟨fun j x hj => by cases hj⟩ (by unfold maxLen; simp))
      have HE2 : Hid (∀ W, K2 w W bA bR (elemO (fixN body 0) 0 ⟨#[104, 116, 109, 108]⟩ []).1 (fixN body 0) nb (.cells #[.string ⟨#[104, 116, 109, 108]⟩, .string ⟨#[104, 101, 97, 100]⟩, .string ⟨#[98, 111, 100, 121]⟩] 9) → Calls Tryz.prog 13 #[.pointer (some ⟨bR, 0, none⟩), .int .i64 0, .string ⟨#[104, 116, 109, 108]⟩, .slice none 0 0] W fun e w' => (∃ r1 r2 : Int, e = .returned (.tuple #[.int .i64 r1, .int .i64 r2])) ∧ K2 w w' bA bR (elemO (fixN body 0) 0 ⟨#[104, 116, 109, 108]⟩ []).1 (elemO (fixN body 0) 0 ⟨#[104, 116, 109, 108]⟩ []).1 nb (.cells #[.string ⟨#[104, 116, 109, 108]⟩, .string ⟨#[104, 101, 97, 100]⟩, .string ⟨#[98, 111, 100, 121]⟩] 9)) := hidE (fun W h => (K2.relem (a := none) (cap := 0) (l := []) h ⟨fun j x hj => by cases hj⟩ (by unfold maxLen; simp)).mono fun e w' ⟨h1, h2⟩ => ⟨⟨_, _, h1⟩, h2⟩)
      have hS : fixN body (0 + 1) = linkR (elemO (fixN body 0) 0 ⟨#[104, 116, 109, 108]⟩ []).1 0 (elemO (fixN body 0) 0 ⟨#[104, 116, 109, 108]⟩ []).2.1 (-1) := rfl
      generalize elemO (fixN body 0) 0 ⟨#[104, 116, 109, 108]⟩ [] = R at HE1 HE2 hS
      obtain ⟨o1, id1, e1⟩ := R
      have HE1' : Hid (Calls Tryz.prog 12 #[.pointer (some ⟨bA, 0, none⟩), .int .i64 0, .string ⟨#[104, 116, 109, 108]⟩, .slice none 0 0] wr fun e w' => e = .returned (.tuple #[.int .i64 id1, .int .i64 e1]) ∧ K2 w w' bA bR o1 (fixN body 0) nb (.cells #[.string ⟨#[104, 116, 109, 108]⟩, .string ⟨#[104, 101, 97, 100]⟩, .string ⟨#[98, 111, 100, 121]⟩] 9)) := HE1
      have HE2' : Hid (∀ W, K2 w W bA bR o1 (fixN body 0) nb (.cells #[.string ⟨#[104, 116, 109, 108]⟩, .string ⟨#[104, 101, 97, 100]⟩, .string ⟨#[98, 111, 100, 121]⟩] 9) → Calls Tryz.prog 13 #[.pointer (some ⟨bR, 0, none⟩), .int .i64 0, .string ⟨#[104, 116, 109, 108]⟩, .slice none 0 0] W fun e w' => (∃ r1 r2 : Int, e = .returned (.tuple #[.int .i64 r1, .int .i64 r2])) ∧ K2 w w' bA bR o1 o1 nb (.cells #[.string ⟨#[104, 116, 109, 108]⟩, .string ⟨#[104, 101, 97, 100]⟩, .string ⟨#[98, 111, 100, 121]⟩] 9)) := HE2
      have HL1 : Hid (∀ W, K2 w W bA bR o1 o1 nb (.cells #[.string ⟨#[104, 116, 109, 108]⟩, .string ⟨#[104, 101, 97, 100]⟩, .string ⟨#[98, 111, 100, 121]⟩] 9) → Calls Tryz.prog 14 #[.pointer (some ⟨bA, 0, none⟩), .int .i64 0, .int .i64 id1, .int .i64 (-1)] W fun e w' => (∃ r : Int, e = .returned (.int .i64 r)) ∧ K2 w w' bA bR (linkR o1 0 id1 (-1)) o1 nb (.cells #[.string ⟨#[104, 116, 109, 108]⟩, .string ⟨#[104, 101, 97, 100]⟩, .string ⟨#[98, 111, 100, 121]⟩] 9)) := hidE (fun W h => (h.link 0 id1 (-1)).mono fun e w' ⟨h1, h2⟩ => ⟨⟨_, h1⟩, h2⟩)
      have HL2 : Hid (∀ W, K2 w W bA bR (linkR o1 0 id1 (-1)) o1 nb (.cells #[.string ⟨#[104, 116, 109, 108]⟩, .string ⟨#[104, 101, 97, 100]⟩, .string ⟨#[98, 111, 100, 121]⟩] 9) → Calls Tryz.prog 15 #[.pointer (some ⟨bR, 0, none⟩), .int .i64 0, .int .i64 id1, .int .i64 (-1)] W fun e w' => (∃ r : Int, e = .returned (.int .i64 r)) ∧ K2 w w' bA bR (linkR o1 0 id1 (-1)) (linkR o1 0 id1 (-1)) nb (.cells #[.string ⟨#[104, 116, 109, 108]⟩, .string ⟨#[104, 101, 97, 100]⟩, .string ⟨#[98, 111, 100, 121]⟩] 9)) := hidE (fun W h => h.rlink.mono fun e w' ⟨h1, h2⟩ => ⟨⟨_, h1⟩, h2⟩)
      have HS : Hid (fixN body (0 + 1) = linkR o1 0 id1 (-1)) := hidE hS
      clear HE1 HE2 hS hst
      go_wp2_with (first
        | (go_at_call 12; refine (unhidE HE1').mono ?_; rintro e w3 ⟨rfl, hk3⟩; obtain ⟨d0, d1, d2⟩ := (unhidE HKC) _ _ _ hk3; have HK3 := hidE ((unhidE HE2') _ hk3); clear hk3)
        | (go_at_call 13; refine (unhidE HK3).mono ?_; rintro e w4 ⟨⟨r1, r2, rfl⟩, hk4⟩; have HK4 := hidE ((unhidE HL1) _ hk4); clear hk4)
        | (go_at_call 14; refine (unhidE HK4).mono ?_; rintro e w5 ⟨⟨r5, rfl⟩, hk5⟩; have HK5 := hidE ((unhidE HL2) _ hk5); clear hk5)
        | (go_at_call 15; refine (unhidE HK5).mono ?_; rintro e w6 ⟨⟨r6, rfl⟩, hk6⟩; rw [← unhidE HS] at hk6; have HK6 := hidE hk6; clear hk6))
      go_roundg (gk - 1)
      case measure => omega
      case rel => exact ⟨0 + 1, by go_num, by omega, unhidE HK6⟩
    · have HE1 : Hid (Calls Tryz.prog 12 #[.pointer (some ⟨bA, 0, none⟩), .int .i64 0, .string ⟨#[104, 101, 97, 100]⟩, .slice none 0 0] wr fun e w' => e = .returned (.tuple #[.int .i64 (elemO (fixN body 1) 0 ⟨#[104, 101, 97, 100]⟩ []).2.1, .int .i64 (elemO (fixN body 1) 0 ⟨#[104, 101, 97, 100]⟩ []).2.2]) ∧ K2 w w' bA bR (elemO (fixN body 1) 0 ⟨#[104, 101, 97, 100]⟩ []).1 (fixN body 1) nb (.cells #[.string ⟨#[104, 116, 109, 108]⟩, .string ⟨#[104, 101, 97, 100]⟩, .string ⟨#[98, 111, 100, 121]⟩] 9)) := hidE (hst.elem 0 ⟨#[104, 101, 97, 100]⟩ none 0 [] ⟨fun j x hj => by cases hj⟩ (by unfold maxLen; simp))
      have HE2 : Hid (∀ W, K2 w W bA bR (elemO (fixN body 1) 0 ⟨#[104, 101, 97, 100]⟩ []).1 (fixN body 1) nb (.cells #[.string ⟨#[104, 116, 109, 108]⟩, .string ⟨#[104, 101, 97, 100]⟩, .string ⟨#[98, 111, 100, 121]⟩] 9) → Calls Tryz.prog 13 #[.pointer (some ⟨bR, 0, none⟩), .int .i64 0, .string ⟨#[104, 101, 97, 100]⟩, .slice none 0 0] W fun e w' => (∃ r1 r2 : Int, e = .returned (.tuple #[.int .i64 r1, .int .i64 r2])) ∧ K2 w w' bA bR (elemO (fixN body 1) 0 ⟨#[104, 101, 97, 100]⟩ []).1 (elemO (fixN body 1) 0 ⟨#[104, 101, 97, 100]⟩ []).1 nb (.cells #[.string ⟨#[104, 116, 109, 108]⟩, .string ⟨#[104, 101, 97, 100]⟩, .string ⟨#[98, 111, 100, 121]⟩] 9)) := hidE (fun W h => (K2.relem (a := none) (cap := 0) (l := []) h ⟨fun j x hj => by cases hj⟩ (by unfold maxLen; simp)).mono fun e w' ⟨h1, h2⟩ => ⟨⟨_, _, h1⟩, h2⟩)
      have hS : fixN body (1 + 1) = linkR (elemO (fixN body 1) 0 ⟨#[104, 101, 97, 100]⟩ []).1 1 (elemO (fixN body 1) 0 ⟨#[104, 101, 97, 100]⟩ []).2.1 (-1) := rfl
      generalize elemO (fixN body 1) 0 ⟨#[104, 101, 97, 100]⟩ [] = R at HE1 HE2 hS
      obtain ⟨o1, id1, e1⟩ := R
      have HE1' : Hid (Calls Tryz.prog 12 #[.pointer (some ⟨bA, 0, none⟩), .int .i64 0, .string ⟨#[104, 101, 97, 100]⟩, .slice none 0 0] wr fun e w' => e = .returned (.tuple #[.int .i64 id1, .int .i64 e1]) ∧ K2 w w' bA bR o1 (fixN body 1) nb (.cells #[.string ⟨#[104, 116, 109, 108]⟩, .string ⟨#[104, 101, 97, 100]⟩, .string ⟨#[98, 111, 100, 121]⟩] 9)) := HE1
      have HE2' : Hid (∀ W, K2 w W bA bR o1 (fixN body 1) nb (.cells #[.string ⟨#[104, 116, 109, 108]⟩, .string ⟨#[104, 101, 97, 100]⟩, .string ⟨#[98, 111, 100, 121]⟩] 9) → Calls Tryz.prog 13 #[.pointer (some ⟨bR, 0, none⟩), .int .i64 0, .string ⟨#[104, 101, 97, 100]⟩, .slice none 0 0] W fun e w' => (∃ r1 r2 : Int, e = .returned (.tuple #[.int .i64 r1, .int .i64 r2])) ∧ K2 w w' bA bR o1 o1 nb (.cells #[.string ⟨#[104, 116, 109, 108]⟩, .string ⟨#[104, 101, 97, 100]⟩, .string ⟨#[98, 111, 100, 121]⟩] 9)) := HE2
      have HL1 : Hid (∀ W, K2 w W bA bR o1 o1 nb (.cells #[.string ⟨#[104, 116, 109, 108]⟩, .string ⟨#[104, 101, 97, 100]⟩, .string ⟨#[98, 111, 100, 121]⟩] 9) → Calls Tryz.prog 14 #[.pointer (some ⟨bA, 0, none⟩), .int .i64 1, .int .i64 id1, .int .i64 (-1)] W fun e w' => (∃ r : Int, e = .returned (.int .i64 r)) ∧ K2 w w' bA bR (linkR o1 1 id1 (-1)) o1 nb (.cells #[.string ⟨#[104, 116, 109, 108]⟩, .string ⟨#[104, 101, 97, 100]⟩, .string ⟨#[98, 111, 100, 121]⟩] 9)) := hidE (fun W h => (h.link 1 id1 (-1)).mono fun e w' ⟨h1, h2⟩ => ⟨⟨_, h1⟩, h2⟩)
      have HL2 : Hid (∀ W, K2 w W bA bR (linkR o1 1 id1 (-1)) o1 nb (.cells #[.string ⟨#[104, 116, 109, 108]⟩, .string ⟨#[104, 101, 97, 100]⟩, .string ⟨#[98, 111, 100, 121]⟩] 9) → Calls Tryz.prog 15 #[.pointer (some ⟨bR, 0, none⟩), .int .i64 1, .int .i64 id1, .int .i64 (-1)] W fun e w' => (∃ r : Int, e = .returned (.int .i64 r)) ∧ K2 w w' bA bR (linkR o1 1 id1 (-1)) (linkR o1 1 id1 (-1)) nb (.cells #[.string ⟨#[104, 116, 109, 108]⟩, .string ⟨#[104, 101, 97, 100]⟩, .string ⟨#[98, 111, 100, 121]⟩] 9)) := hidE (fun W h => h.rlink.mono fun e w' ⟨h1, h2⟩ => ⟨⟨_, h1⟩, h2⟩)
      have HS : Hid (fixN body (1 + 1) = linkR o1 1 id1 (-1)) := hidE hS
      clear HE1 HE2 hS hst
      go_wp2_with (first
        | (go_at_call 12; refine (unhidE HE1').mono ?_; rintro e w3 ⟨rfl, hk3⟩; obtain ⟨d0, d1, d2⟩ := (unhidE HKC) _ _ _ hk3; have HK3 := hidE ((unhidE HE2') _ hk3); clear hk3)
        | (go_at_call 13; refine (unhidE HK3).mono ?_; rintro e w4 ⟨⟨r1, r2, rfl⟩, hk4⟩; have HK4 := hidE ((unhidE HL1) _ hk4); clear hk4)
        | (go_at_call 14; refine (unhidE HK4).mono ?_; rintro e w5 ⟨⟨r5, rfl⟩, hk5⟩; have HK5 := hidE ((unhidE HL2) _ hk5); clear hk5)
        | (go_at_call 15; refine (unhidE HK5).mono ?_; rintro e w6 ⟨⟨r6, rfl⟩, hk6⟩; rw [← unhidE HS] at hk6; have HK6 := hidE hk6; clear hk6))
      go_roundg (gk - 1)
      case measure => omega
      case rel => exact ⟨1 + 1, by go_num, by omega, unhidE HK6⟩
    · have HE1 : Hid (Calls Tryz.prog 12 #[.pointer (some ⟨bA, 0, none⟩), .int .i64 0, .string ⟨#[98, 111, 100, 121]⟩, .slice la body.length lc] wr fun e w' => e = .returned (.tuple #[.int .i64 (elemO (fixN body 2) 0 ⟨#[98, 111, 100, 121]⟩ body).2.1, .int .i64 (elemO (fixN body 2) 0 ⟨#[98, 111, 100, 121]⟩ body).2.2]) ∧ K2 w w' bA bR (elemO (fixN body 2) 0 ⟨#[98, 111, 100, 121]⟩ body).1 (fixN body 2) nb (.cells #[.string ⟨#[104, 116, 109, 108]⟩, .string ⟨#[104, 101, 97, 100]⟩, .string ⟨#[98, 111, 100, 121]⟩] 9)) := hidE (hst.elem 0 ⟨#[98, 111, 100, 121]⟩ la lc body ((unhidE HBD) _ hst.1) hbl)
      have HE2 : Hid (∀ W, K2 w W bA bR (elemO (fixN body 2) 0 ⟨#[98, 111, 100, 121]⟩ body).1 (fixN body 2) nb (.cells #[.string ⟨#[104, 116, 109, 108]⟩, .string ⟨#[104, 101, 97, 100]⟩, .string ⟨#[98, 111, 100, 121]⟩] 9) → Calls Tryz.prog 13 #[.pointer (some ⟨bR, 0, none⟩), .int .i64 0, .string ⟨#[98, 111, 100, 121]⟩, .slice la body.length lc] W fun e w' => (∃ r1 r2 : Int, e = .returned (.tuple #[.int .i64 r1, .int .i64 r2])) ∧ K2 w w' bA bR (elemO (fixN body 2) 0 ⟨#[98, 111, 100, 121]⟩ body).1 (elemO (fixN body 2) 0 ⟨#[98, 111, 100, 121]⟩ body).1 nb (.cells #[.string ⟨#[104, 116, 109, 108]⟩, .string ⟨#[104, 101, 97, 100]⟩, .string ⟨#[98, 111, 100, 121]⟩] 9)) := hidE (fun W h => (K2.relem (a := la) (cap := lc) (l := body) h ((unhidE HBD) _ h.1) hbl).mono fun e w' ⟨h1, h2⟩ => ⟨⟨_, _, h1⟩, h2⟩)
      have hS : fixN body (2 + 1) = linkR (elemO (fixN body 2) 0 ⟨#[98, 111, 100, 121]⟩ body).1 1 (elemO (fixN body 2) 0 ⟨#[98, 111, 100, 121]⟩ body).2.1 (-1) := rfl
      generalize elemO (fixN body 2) 0 ⟨#[98, 111, 100, 121]⟩ body = R at HE1 HE2 hS
      obtain ⟨o1, id1, e1⟩ := R
      have HE1' : Hid (Calls Tryz.prog 12 #[.pointer (some ⟨bA, 0, none⟩), .int .i64 0, .string ⟨#[98, 111, 100, 121]⟩, .slice la body.length lc] wr fun e w' => e = .returned (.tuple #[.int .i64 id1, .int .i64 e1]) ∧ K2 w w' bA bR o1 (fixN body 2) nb (.cells #[.string ⟨#[104, 116, 109, 108]⟩, .string ⟨#[104, 101, 97, 100]⟩, .string ⟨#[98, 111, 100, 121]⟩] 9)) := HE1
      have HE2' : Hid (∀ W, K2 w W bA bR o1 (fixN body 2) nb (.cells #[.string ⟨#[104, 116, 109, 108]⟩, .string ⟨#[104, 101, 97, 100]⟩, .string ⟨#[98, 111, 100, 121]⟩] 9) → Calls Tryz.prog 13 #[.pointer (some ⟨bR, 0, none⟩), .int .i64 0, .string ⟨#[98, 111, 100, 121]⟩, .slice la body.length lc] W fun e w' => (∃ r1 r2 : Int, e = .returned (.tuple #[.int .i64 r1, .int .i64 r2])) ∧ K2 w w' bA bR o1 o1 nb (.cells #[.string ⟨#[104, 116, 109, 108]⟩, .string ⟨#[104, 101, 97, 100]⟩, .string ⟨#[98, 111, 100, 121]⟩] 9)) := HE2
      have HL1 : Hid (∀ W, K2 w W bA bR o1 o1 nb (.cells #[.string ⟨#[104, 116, 109, 108]⟩, .string ⟨#[104, 101, 97, 100]⟩, .string ⟨#[98, 111, 100, 121]⟩] 9) → Calls Tryz.prog 14 #[.pointer (some ⟨bA, 0, none⟩), .int .i64 1, .int .i64 id1, .int .i64 (-1)] W fun e w' => (∃ r : Int, e = .returned (.int .i64 r)) ∧ K2 w w' bA bR (linkR o1 1 id1 (-1)) o1 nb (.cells #[.string ⟨#[104, 116, 109, 108]⟩, .string ⟨#[104, 101, 97, 100]⟩, .string ⟨#[98, 111, 100, 121]⟩] 9)) := hidE (fun W h => (h.link 1 id1 (-1)).mono fun e w' ⟨h1, h2⟩ => ⟨⟨_, h1⟩, h2⟩)
      have HL2 : Hid (∀ W, K2 w W bA bR (linkR o1 1 id1 (-1)) o1 nb (.cells #[.string ⟨#[104, 116, 109, 108]⟩, .string ⟨#[104, 101, 97, 100]⟩, .string ⟨#[98, 111, 100, 121]⟩] 9) → Calls Tryz.prog 15 #[.pointer (some ⟨bR, 0, none⟩), .int .i64 1, .int .i64 id1, .int .i64 (-1)] W fun e w' => (∃ r : Int, e = .returned (.int .i64 r)) ∧ K2 w w' bA bR (linkR o1 1 id1 (-1)) (linkR o1 1 id1 (-1)) nb (.cells #[.string ⟨#[104, 116, 109, 108]⟩, .string ⟨#[104, 101, 97, 100]⟩, .string ⟨#[98, 111, 100, 121]⟩] 9)) := hidE (fun W h => h.rlink.mono fun e w' ⟨h1, h2⟩ => ⟨⟨_, h1⟩, h2⟩)
      have HS : Hid (fixN body (2 + 1) = linkR o1 1 id1 (-1)) := hidE hS
      clear HE1 HE2 hS hst
      go_wp2_with (first
        | (go_at_call 12; refine (unhidE HE1').mono ?_; rintro e w3 ⟨rfl, hk3⟩; obtain ⟨d0, d1, d2⟩ := (unhidE HKC) _ _ _ hk3; have HK3 := hidE ((unhidE HE2') _ hk3); clear hk3)
        | (go_at_call 13; refine (unhidE HK3).mono ?_; rintro e w4 ⟨⟨r1, r2, rfl⟩, hk4⟩; have HK4 := hidE ((unhidE HL1) _ hk4); clear hk4)
        | (go_at_call 14; refine (unhidE HK4).mono ?_; rintro e w5 ⟨⟨r5, rfl⟩, hk5⟩; have HK5 := hidE ((unhidE HL2) _ hk5); clear hk5)
        | (go_at_call 15; refine (unhidE HK5).mono ?_; rintro e w6 ⟨⟨r6, rfl⟩, hk6⟩; rw [← unhidE HS] at hk6; have HK6 := hidE hk6; clear hk6))
      go_roundg (gk - 1)
      case measure => omega
      case rel => exact ⟨2 + 1, by go_num, by omega, unhidE HK6⟩
    · have HST := hidE hst.forget
      clear hst n0 n1 n2 HKC hik
      go_wp2
      go_loopg [14, 15, 16, 17] l.length (fun k s14 _ _ _ wx => ∃ (i : Nat) (os : List OneM), s14 = .int .i64 i ∧ i + k = l.length ∧ i ≤ 300 ∧ os = (l.take i).foldl stepO (fixN body 3) ∧ os.length ≤ 7 + 2 * i ∧ Ext os ∧ PgO os ∧ P2 w wx bA bR os os)
      case atStart => exact ⟨0, fixN body 3, rfl, by omega, by omega, by simp, fixN_len body 3, ext_fixN body 3, pg_fixN body 3, unhidE HST⟩
      case round =>
        clear HST
        obtain ⟨i, os, rfl, hik, hi300, hos, hol, hext, hpg, hst⟩ := hrel
        by_cases hi : i < l.length ∧ i < 300
        · obtain ⟨hi1, hi2⟩ := hi
          have hiz : (i : Int) < (l.length : Int) := by omega
          have hiz2 : (i : Int) < 300 := by omega
          obtain ⟨x, hx⟩ : ∃ x, l[i]? = some x := ⟨_, List.getElem?_eq_getElem hi1⟩
          have hinx := (unhidE HIN).below hst.1
          obtain ⟨b, off, rfl, c0, c1, c2, c3⟩ := hinx.cells i x hx
          obtain ⟨hat, hal⟩ := hinx.attrs i x hx
          have hk := hst.beside (.cells #[.int .i64 x.what, .int .i64 x.up, .string x.text, .slice x.la x.l.length x.cap] 47)
          have hat2 := hat.below (below_new wr (.cells #[.int .i64 x.what, .int .i64 x.up, .string x.text, .slice x.la x.l.length x.cap] 47))
          have HKC : Hid (∀ W oa ob, K2 w W bA bR oa ob wr.heap.size (.cells #[.int .i64 x.what, .int .i64 x.up, .string x.text, .slice x.la x.l.length x.cap] 47) → W.cell? ⟨wr.heap.size, 0, none⟩ = some (.int .i64 x.what) ∧ W.cell? ⟨wr.heap.size, 1, none⟩ = some (.int .i64 x.up) ∧ W.cell? ⟨wr.heap.size, 2, none⟩ = some (.string x.text) ∧ W.cell? ⟨wr.heap.size, 3, none⟩ = some (.slice x.la x.l.length x.cap)) := hidE (fun W oa ob h => ⟨cell_row _ _ 0 _ _ _ h.block, cell_row _ _ 1 _ _ _ h.block, cell_row _ _ 2 _ _ _ h.block, cell_row _ _ 3 _ _ _ h.block⟩)
          have HL1 : Hid (∀ W oa (c : Int), K2 w W bA bR oa oa wr.heap.size (.cells #[.int .i64 x.what, .int .i64 x.up, .string x.text, .slice x.la x.l.length x.cap] 47) → Calls Tryz.prog 14 #[.pointer (some ⟨bA, 0, none⟩), .int .i64 x.up, .int .i64 c, .int .i64 (-1)] W fun e w' => (∃ r : Int, e = .returned (.int .i64 r)) ∧ K2 w w' bA bR (linkR oa x.up c (-1)) oa wr.heap.size (.cells #[.int .i64 x.what, .int .i64 x.up, .string x.text, .slice x.la x.l.length x.cap] 47)) := hidE (fun W oa c h => (h.link x.up c (-1)).mono fun e w' ⟨h1, h2⟩ => ⟨⟨_, h1⟩, h2⟩)
          have HL2 : Hid (∀ W oa (c : Int), K2 w W bA bR (linkR oa x.up c (-1)) oa wr.heap.size (.cells #[.int .i64 x.what, .int .i64 x.up, .string x.text, .slice x.la x.l.length x.cap] 47) → Calls Tryz.prog 15 #[.pointer (some ⟨bR, 0, none⟩), .int .i64 x.up, .int .i64 c, .int .i64 (-1)] W fun e w' => (∃ r : Int, e = .returned (.int .i64 r)) ∧ K2 w w' bA bR (linkR oa x.up c (-1)) (linkR oa x.up c (-1)) wr.heap.size (.cells #[.int .i64 x.what, .int .i64 x.up, .string x.text, .slice x.la x.l.length x.cap] 47)) := hidE (fun W oa c h => h.rlink.mono fun e w' ⟨h1, h2⟩ => ⟨⟨_, h1⟩, h2⟩)
          have hsl := step_len os x
          have hfold : stepO os x = (l.take (i + 1)).foldl stepO (fixN body 3) := by rw [hos, List.take_add_one, hx]; simp [List.foldl_append]
          have HEX : Hid (Ext (stepO os x) ∧ PgO (stepO os x) ∧ stepO os x = (l.take (i + 1)).foldl stepO (fixN body 3)) := hidE ⟨ext_step hext x, pg_step hpg x, hfold⟩
          clear hfold hpg hos
          by_cases h0 : x.what = 0
          · have hR : mkO os x = elemO os 0 x.text x.l := by unfold mkO; rw [if_pos h0]
            have HE1 : Hid (Calls Tryz.prog 12 #[.pointer (some ⟨bA, 0, none⟩), .int .i64 0, .string x.text, .slice x.la x.l.length x.cap] (wr.alloc (.cells #[.int .i64 x.what, .int .i64 x.up, .string x.text, .slice x.la x.l.length x.cap] 47)) fun e w' => e = .returned (.tuple #[.int .i64 (elemO os 0 x.text x.l).2.1, .int .i64 (elemO os 0 x.text x.l).2.2]) ∧ K2 w w' bA bR (elemO os 0 x.text x.l).1 os wr.heap.size (.cells #[.int .i64 x.what, .int .i64 x.up, .string x.text, .slice x.la x.l.length x.cap] 47)) := hidE (hk.elem 0 x.text x.la x.cap x.l hat2 (by unfold maxLen; omega))
            have HE2 : Hid (∀ W, K2 w W bA bR (elemO os 0 x.text x.l).1 os wr.heap.size (.cells #[.int .i64 x.what, .int .i64 x.up, .string x.text, .slice x.la x.l.length x.cap] 47) → Calls Tryz.prog 13 #[.pointer (some ⟨bR, 0, none⟩), .int .i64 0, .string x.text, .slice x.la x.l.length x.cap] W fun e w' => (∃ r1 r2 : Int, e = .returned (.tuple #[.int .i64 r1, .int .i64 r2])) ∧ K2 w w' bA bR (elemO os 0 x.text x.l).1 (elemO os 0 x.text x.l).1 wr.heap.size (.cells #[.int .i64 x.what, .int .i64 x.up, .string x.text, .slice x.la x.l.length x.cap] 47)) := hidE (fun W h => (h.relem (((unhidE HIN).below h.1).attrs i x hx).1 (by unfold maxLen; omega)).mono fun e w' ⟨h1, h2⟩ => ⟨⟨_, _, h1⟩, h2⟩)
            have hS : stepO os x = if (mkO os x).2.2 = 0 then linkR (mkO os x).1 x.up (mkO os x).2.1 (-1) else (mkO os x).1 := rfl
            rw [hR] at hS
            generalize elemO os 0 x.text x.l = R at HE1 HE2 hS
            obtain ⟨o1, id1, e1⟩ := R
            have HE1' : Hid (Calls Tryz.prog 12 #[.pointer (some ⟨bA, 0, none⟩), .int .i64 0, .string x.text, .slice x.la x.l.length x.cap] (wr.alloc (.cells #[.int .i64 x.what, .int .i64 x.up, .string x.text, .slice x.la x.l.length x.cap] 47)) fun e w' => e = .returned (.tuple #[.int .i64 id1, .int .i64 e1]) ∧ K2 w w' bA bR o1 os wr.heap.size (.cells #[.int .i64 x.what, .int .i64 x.up, .string x.text, .slice x.la x.l.length x.cap] 47)) := HE1
            have HE2' : Hid (∀ W, K2 w W bA bR o1 os wr.heap.size (.cells #[.int .i64 x.what, .int .i64 x.up, .string x.text, .slice x.la x.l.length x.cap] 47) → Calls Tryz.prog 13 #[.pointer (some ⟨bR, 0, none⟩), .int .i64 0, .string x.text, .slice x.la x.l.length x.cap] W fun e w' => (∃ r1 r2 : Int, e = .returned (.tuple #[.int .i64 r1, .int .i64 r2])) ∧ K2 w w' bA bR o1 o1 wr.heap.size (.cells #[.int .i64 x.what, .int .i64 x.up, .string x.text, .slice x.la x.l.length x.cap] 47)) := HE2
            clear HE1 HE2 hR hk hat hat2 hst hinx hext hx
            have q0 : (x.what == 0) = true := by simpa using h0
            clear h0
            by_cases he : e1 = 0
            · subst he
              have hS' : stepO os x = linkR o1 x.up id1 (-1) := by rw [hS]; rfl
              rw [hS'] at HEX hsl
              clear hS hS'
              go_wp2_with (first
                | (go_at_call 12; refine (unhidE HE1').mono ?_; rintro e w3 ⟨rfl, hk3⟩; obtain ⟨d0, d1, d2, d3⟩ := (unhidE HKC) _ _ _ hk3; have HK3 := hidE ((unhidE HE2') _ hk3); clear hk3)
                | (go_at_call 13; refine (unhidE HK3).mono ?_; rintro e w4 ⟨⟨r1, r2, rfl⟩, hk4⟩; obtain ⟨f0, f1, f2, f3⟩ := (unhidE HKC) _ _ _ hk4; have HK4 := hidE ((unhidE HL1) _ _ id1 hk4); clear hk4)
                | (go_at_call 14; refine (unhidE HK4).mono ?_; rintro e w5 ⟨⟨r5, rfl⟩, hk5⟩; obtain ⟨g0, g1, g2, g3⟩ := (unhidE HKC) _ _ _ hk5; have HK5 := hidE ((unhidE HL2) _ _ id1 hk5); clear hk5)
                | (go_at_call 15; refine (unhidE HK5).mono ?_; rintro e w6 ⟨⟨r6, rfl⟩, hk6⟩; have HK6 := hidE hk6.forget; clear hk6))
              go_roundg (gk - 1)
              case measure => omega
              case rel => exact ⟨i + 1, _, by go_num, by omega, by omega, (unhidE HEX).2.2, by omega, (unhidE HEX).1, (unhidE HEX).2.1, unhidE HK6⟩
            · have hez : (e1 == 0) = false := by simpa using he
              have hS' : stepO os x = o1 := by rw [hS]; show (if e1 = 0 then _ else _) = _; rw [if_neg he]
              rw [hS'] at HEX hsl
              clear hS hS' he
              go_wp2_with (first
                | (go_at_call 12; refine (unhidE HE1').mono ?_; rintro e w3 ⟨rfl, hk3⟩; obtain ⟨d0, d1, d2, d3⟩ := (unhidE HKC) _ _ _ hk3; have HK3 := hidE ((unhidE HE2') _ hk3); clear hk3)
                | (go_at_call 13; refine (unhidE HK3).mono ?_; rintro e w4 ⟨⟨r1, r2, rfl⟩, hk4⟩; have HK4 := hidE hk4.forget; clear hk4))
              go_roundg (gk - 1)
              case measure => omega
              case rel => exact ⟨i + 1, _, by go_num, by omega, by omega, (unhidE HEX).2.2, by omega, (unhidE HEX).1, (unhidE HEX).2.1, unhidE HK4⟩
          · by_cases h1 : x.what = 1
            · have hR : mkO os x = dataO os 2 x.text := by unfold mkO; rw [if_neg h0, if_pos h1]
              have HE1 : Hid (Calls Tryz.prog 16 #[.pointer (some ⟨bA, 0, none⟩), .string x.text] (wr.alloc (.cells #[.int .i64 x.what, .int .i64 x.up, .string x.text, .slice x.la x.l.length x.cap] 47)) fun e w' => e = .returned (.tuple #[.int .i64 (dataO os 2 x.text).2.1, .int .i64 (dataO os 2 x.text).2.2]) ∧ K2 w w' bA bR (dataO os 2 x.text).1 os wr.heap.size (.cells #[.int .i64 x.what, .int .i64 x.up, .string x.text, .slice x.la x.l.length x.cap] 47)) := hidE (hk.text x.text)
              have HE2 : Hid (∀ W, K2 w W bA bR (dataO os 2 x.text).1 os wr.heap.size (.cells #[.int .i64 x.what, .int .i64 x.up, .string x.text, .slice x.la x.l.length x.cap] 47) → Calls Tryz.prog 17 #[.pointer (some ⟨bR, 0, none⟩), .string x.text] W fun e w' => (∃ r1 r2 : Int, e = .returned (.tuple #[.int .i64 r1, .int .i64 r2])) ∧ K2 w w' bA bR (dataO os 2 x.text).1 (dataO os 2 x.text).1 wr.heap.size (.cells #[.int .i64 x.what, .int .i64 x.up, .string x.text, .slice x.la x.l.length x.cap] 47)) := hidE (fun W h => (h.rtext).mono fun e w' ⟨h1, h2⟩ => ⟨⟨_, _, h1⟩, h2⟩)
              have hS : stepO os x = if (mkO os x).2.2 = 0 then linkR (mkO os x).1 x.up (mkO os x).2.1 (-1) else (mkO os x).1 := rfl
              rw [hR] at hS
              generalize dataO os 2 x.text = R at HE1 HE2 hS
              obtain ⟨o1, id1, e1⟩ := R
              have HE1' : Hid (Calls Tryz.prog 16 #[.pointer (some ⟨bA, 0, none⟩), .string x.text] (wr.alloc (.cells #[.int .i64 x.what, .int .i64 x.up, .string x.text, .slice x.la x.l.length x.cap] 47)) fun e w' => e = .returned (.tuple #[.int .i64 id1, .int .i64 e1]) ∧ K2 w w' bA bR o1 os wr.heap.size (.cells #[.int .i64 x.what, .int .i64 x.up, .string x.text, .slice x.la x.l.length x.cap] 47)) := HE1
              have HE2' : Hid (∀ W, K2 w W bA bR o1 os wr.heap.size (.cells #[.int .i64 x.what, .int .i64 x.up, .string x.text, .slice x.la x.l.length x.cap] 47) → Calls Tryz.prog 17 #[.pointer (some ⟨bR, 0, none⟩), .string x.text] W fun e w' => (∃ r1 r2 : Int, e = .returned (.tuple #[.int .i64 r1, .int .i64 r2])) ∧ K2 w w' bA bR o1 o1 wr.heap.size (.cells #[.int .i64 x.what, .int .i64 x.up, .string x.text, .slice x.la x.l.length x.cap] 47)) := HE2
              clear HE1 HE2 hR hk hat hat2 hst hinx hext hx
              have q0 : (x.what == 0) = false := by simpa using h0
              have q1 : (x.what == 1) = true := by simpa using h1
              clear h1
              by_cases he : e1 = 0
              · subst he
                have hS' : stepO os x = linkR o1 x.up id1 (-1) := by rw [hS]; rfl
                rw [hS'] at HEX hsl
                clear hS hS'
                go_wp2_with (first
                  | (go_at_call 16; refine (unhidE HE1').mono ?_; rintro e w3 ⟨rfl, hk3⟩; obtain ⟨d0, d1, d2, d3⟩ := (unhidE HKC) _ _ _ hk3; have HK3 := hidE ((unhidE HE2') _ hk3); clear hk3)
                  | (go_at_call 17; refine (unhidE HK3).mono ?_; rintro e w4 ⟨⟨r1, r2, rfl⟩, hk4⟩; obtain ⟨f0, f1, f2, f3⟩ := (unhidE HKC) _ _ _ hk4; have HK4 := hidE ((unhidE HL1) _ _ id1 hk4); clear hk4)
                  | (go_at_call 14; refine (unhidE HK4).mono ?_; rintro e w5 ⟨⟨r5, rfl⟩, hk5⟩; obtain ⟨g0, g1, g2, g3⟩ := (unhidE HKC) _ _ _ hk5; have HK5 := hidE ((unhidE HL2) _ _ id1 hk5); clear hk5)
                  | (go_at_call 15; refine (unhidE HK5).mono ?_; rintro e w6 ⟨⟨r6, rfl⟩, hk6⟩; have HK6 := hidE hk6.forget; clear hk6))
                go_roundg (gk - 1)
                case measure => omega
                case rel => exact ⟨i + 1, _, by go_num, by omega, by omega, (unhidE HEX).2.2, by omega, (unhidE HEX).1, (unhidE HEX).2.1, unhidE HK6⟩
              · have hez : (e1 == 0) = false := by simpa using he
                have hS' : stepO os x = o1 := by rw [hS]; show (if e1 = 0 then _ else _) = _; rw [if_neg he]
                rw [hS'] at HEX hsl
                clear hS hS' he
                go_wp2_with (first
                  | (go_at_call 16; refine (unhidE HE1').mono ?_; rintro e w3 ⟨rfl, hk3⟩; obtain ⟨d0, d1, d2, d3⟩ := (unhidE HKC) _ _ _ hk3; have HK3 := hidE ((unhidE HE2') _ hk3); clear hk3)
                  | (go_at_call 17; refine (unhidE HK3).mono ?_; rintro e w4 ⟨⟨r1, r2, rfl⟩, hk4⟩; have HK4 := hidE hk4.forget; clear hk4))
                go_roundg (gk - 1)
                case measure => omega
                case rel => exact ⟨i + 1, _, by go_num, by omega, by omega, (unhidE HEX).2.2, by omega, (unhidE HEX).1, (unhidE HEX).2.1, unhidE HK4⟩
            · have hR : mkO os x = dataO os 3 x.text := by unfold mkO; rw [if_neg h0, if_neg h1]
              have HE1 : Hid (Calls Tryz.prog 18 #[.pointer (some ⟨bA, 0, none⟩), .string x.text] (wr.alloc (.cells #[.int .i64 x.what, .int .i64 x.up, .string x.text, .slice x.la x.l.length x.cap] 47)) fun e w' => e = .returned (.tuple #[.int .i64 (dataO os 3 x.text).2.1, .int .i64 (dataO os 3 x.text).2.2]) ∧ K2 w w' bA bR (dataO os 3 x.text).1 os wr.heap.size (.cells #[.int .i64 x.what, .int .i64 x.up, .string x.text, .slice x.la x.l.length x.cap] 47)) := hidE (hk.comment x.text)
              have HE2 : Hid (∀ W, K2 w W bA bR (dataO os 3 x.text).1 os wr.heap.size (.cells #[.int .i64 x.what, .int .i64 x.up, .string x.text, .slice x.la x.l.length x.cap] 47) → Calls Tryz.prog 19 #[.pointer (some ⟨bR, 0, none⟩), .string x.text] W fun e w' => (∃ r1 r2 : Int, e = .returned (.tuple #[.int .i64 r1, .int .i64 r2])) ∧ K2 w w' bA bR (dataO os 3 x.text).1 (dataO os 3 x.text).1 wr.heap.size (.cells #[.int .i64 x.what, .int .i64 x.up, .string x.text, .slice x.la x.l.length x.cap] 47)) := hidE (fun W h => (h.rcomment).mono fun e w' ⟨h1, h2⟩ => ⟨⟨_, _, h1⟩, h2⟩)
              have hS : stepO os x = if (mkO os x).2.2 = 0 then linkR (mkO os x).1 x.up (mkO os x).2.1 (-1) else (mkO os x).1 := rfl
              rw [hR] at hS
              generalize dataO os 3 x.text = R at HE1 HE2 hS
              obtain ⟨o1, id1, e1⟩ := R
              have HE1' : Hid (Calls Tryz.prog 18 #[.pointer (some ⟨bA, 0, none⟩), .string x.text] (wr.alloc (.cells #[.int .i64 x.what, .int .i64 x.up, .string x.text, .slice x.la x.l.length x.cap] 47)) fun e w' => e = .returned (.tuple #[.int .i64 id1, .int .i64 e1]) ∧ K2 w w' bA bR o1 os wr.heap.size (.cells #[.int .i64 x.what, .int .i64 x.up, .string x.text, .slice x.la x.l.length x.cap] 47)) := HE1
              have HE2' : Hid (∀ W, K2 w W bA bR o1 os wr.heap.size (.cells #[.int .i64 x.what, .int .i64 x.up, .string x.text, .slice x.la x.l.length x.cap] 47) → Calls Tryz.prog 19 #[.pointer (some ⟨bR, 0, none⟩), .string x.text] W fun e w' => (∃ r1 r2 : Int, e = .returned (.tuple #[.int .i64 r1, .int .i64 r2])) ∧ K2 w w' bA bR o1 o1 wr.heap.size (.cells #[.int .i64 x.what, .int .i64 x.up, .string x.text, .slice x.la x.l.length x.cap] 47)) := HE2
              clear HE1 HE2 hR hk hat hat2 hst hinx hext hx
              have q0 : (x.what == 0) = false := by simpa using h0
              have q1 : (x.what == 1) = false := by simpa using h1
              by_cases he : e1 = 0
              · subst he
                have hS' : stepO os x = linkR o1 x.up id1 (-1) := by rw [hS]; rfl
                rw [hS'] at HEX hsl
                clear hS hS'
                go_wp2_with (first
                  | (go_at_call 18; refine (unhidE HE1').mono ?_; rintro e w3 ⟨rfl, hk3⟩; obtain ⟨d0, d1, d2, d3⟩ := (unhidE HKC) _ _ _ hk3; have HK3 := hidE ((unhidE HE2') _ hk3); clear hk3)
                  | (go_at_call 19; refine (unhidE HK3).mono ?_; rintro e w4 ⟨⟨r1, r2, rfl⟩, hk4⟩; obtain ⟨f0, f1, f2, f3⟩ := (unhidE HKC) _ _ _ hk4; have HK4 := hidE ((unhidE HL1) _ _ id1 hk4); clear hk4)
                  | (go_at_call 14; refine (unhidE HK4).mono ?_; rintro e w5 ⟨⟨r5, rfl⟩, hk5⟩; obtain ⟨g0, g1, g2, g3⟩ := (unhidE HKC) _ _ _ hk5; have HK5 := hidE ((unhidE HL2) _ _ id1 hk5); clear hk5)
                  | (go_at_call 15; refine (unhidE HK5).mono ?_; rintro e w6 ⟨⟨r6, rfl⟩, hk6⟩; have HK6 := hidE hk6.forget; clear hk6))
                go_roundg (gk - 1)
                case measure => omega
                case rel => exact ⟨i + 1, _, by go_num, by omega, by omega, (unhidE HEX).2.2, by omega, (unhidE HEX).1, (unhidE HEX).2.1, unhidE HK6⟩
              · have hez : (e1 == 0) = false := by simpa using he
                have hS' : stepO os x = o1 := by rw [hS]; show (if e1 = 0 then _ else _) = _; rw [if_neg he]
                rw [hS'] at HEX hsl
                clear hS hS' he
                go_wp2_with (first
                  | (go_at_call 18; refine (unhidE HE1').mono ?_; rintro e w3 ⟨rfl, hk3⟩; obtain ⟨d0, d1, d2, d3⟩ := (unhidE HKC) _ _ _ hk3; have HK3 := hidE ((unhidE HE2') _ hk3); clear hk3)
                  | (go_at_call 19; refine (unhidE HK3).mono ?_; rintro e w4 ⟨⟨r1, r2, rfl⟩, hk4⟩; have HK4 := hidE hk4.forget; clear hk4))
                go_roundg (gk - 1)
                case measure => omega
                case rel => exact ⟨i + 1, _, by go_num, by omega, by omega, (unhidE HEX).2.2, by omega, (unhidE HEX).1, (unhidE HEX).2.1, unhidE HK4⟩
        · have fin : (i < l.length ∧ i = 300) ∨ ¬ i < l.length := by omega
          have hpo : os = pagesO body l := by
            rw [hos]
            unfold pagesO
            rcases fin with ⟨_, f2⟩ | f1
            · rw [f2]
            · rw [List.take_of_length_le (by omega), List.take_of_length_le (by omega)]
          have HPO := hidE hpo
          have HP := hidE hst
          have HX := hidE hext
          have HG := hidE hpg
          clear hst hext hpg hos hpo
          rcases fin with ⟨f1, f2⟩ | f1
          · have hiz : (i : Int) < (l.length : Int) := by omega
            have hiz2 : ¬ (i : Int) < 300 := by omega
            clear f1 f2
            go_wp2
            go_ret2
            rw [← unhidE HPO]
            exact ⟨bA, bR, rfl, unhidE HP, unhidE HX, unhidE HG, by omega⟩
          · have hiz : ¬ (i : Int) < (l.length : Int) := by omega
            clear f1
            go_wp2
            go_ret2
            rw [← unhidE HPO]
            exact ⟨bA, bR, rfl, unhidE HP, unhidE HX, unhidE HG, by omega⟩
end Go.Proofs.YtmnmaenmoaehlaaGreatDoor
