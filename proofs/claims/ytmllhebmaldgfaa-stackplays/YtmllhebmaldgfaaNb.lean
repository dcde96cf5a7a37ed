import Derived.Test.YtmllhebmaldgfaaNa
import Derived.Deep.RegionWith
/-
  Package stack's tables of names.
-/
namespace Go.Proofs.Ytmllhebmaldgfaa
open Go.RowKit

def bordT : List ByteArray := [⟨#[97, 112, 112, 108, 101, 116]⟩, ⟨#[99, 97, 112, 116, 105, 111, 110]⟩, ⟨#[104, 116, 109, 108]⟩, ⟨#[116, 97, 98, 108, 101]⟩, ⟨#[116, 100]⟩, ⟨#[116, 104]⟩, ⟨#[109, 97, 114, 113, 117, 101, 101]⟩, ⟨#[111, 98, 106, 101, 99, 116]⟩, ⟨#[116, 101, 109, 112, 108, 97, 116, 101]⟩]
def mathT : List ByteArray := [⟨#[109, 105]⟩, ⟨#[109, 111]⟩, ⟨#[109, 110]⟩, ⟨#[109, 115]⟩, ⟨#[109, 116, 101, 120, 116]⟩, ⟨#[97, 110, 110, 111, 116, 97, 116, 105, 111, 110, 45, 120, 109, 108]⟩]
def svgT : List ByteArray := [⟨#[102, 111, 114, 101, 105, 103, 110, 79, 98, 106, 101, 99, 116]⟩, ⟨#[100, 101, 115, 99]⟩, ⟨#[116, 105, 116, 108, 101]⟩]
def tblT : List ByteArray := [⟨#[104, 116, 109, 108]⟩, ⟨#[116, 97, 98, 108, 101]⟩, ⟨#[116, 101, 109, 112, 108, 97, 116, 101]⟩]
def impT : List ByteArray := [⟨#[100, 100]⟩, ⟨#[100, 116]⟩, ⟨#[108, 105]⟩, ⟨#[111, 112, 116, 103, 114, 111, 117, 112]⟩, ⟨#[111, 112, 116, 105, 111, 110]⟩, ⟨#[112]⟩, ⟨#[114, 98]⟩, ⟨#[114, 112]⟩, ⟨#[114, 116]⟩, ⟨#[114, 116, 99]⟩]
def partT : List ByteArray := [⟨#[99, 97, 112, 116, 105, 111, 110]⟩, ⟨#[99, 111, 108, 103, 114, 111, 117, 112]⟩, ⟨#[116, 98, 111, 100, 121]⟩, ⟨#[116, 100]⟩, ⟨#[116, 102, 111, 111, 116]⟩, ⟨#[116, 104]⟩, ⟨#[116, 104, 101, 97, 100]⟩, ⟨#[116, 114]⟩]
def specT : List ByteArray := [⟨#[97, 100, 100, 114, 101, 115, 115]⟩, ⟨#[97, 112, 112, 108, 101, 116]⟩, ⟨#[97, 114, 101, 97]⟩, ⟨#[97, 114, 116, 105, 99, 108, 101]⟩, ⟨#[97, 115, 105, 100, 101]⟩, ⟨#[98, 97, 115, 101]⟩, ⟨#[98, 97, 115, 101, 102, 111, 110, 116]⟩, ⟨#[98, 103, 115, 111, 117, 110, 100]⟩, ⟨#[98, 108, 111, 99, 107, 113, 117, 111, 116, 101]⟩, ⟨#[98, 111, 100, 121]⟩, ⟨#[98, 114]⟩, ⟨#[98, 117, 116, 116, 111, 110]⟩, ⟨#[99, 97, 112, 116, 105, 111, 110]⟩, ⟨#[99, 101, 110, 116, 101, 114]⟩, ⟨#[99, 111, 108]⟩, ⟨#[99, 111, 108, 103, 114, 111, 117, 112]⟩, ⟨#[100, 100]⟩, ⟨#[100, 101, 116, 97, 105, 108, 115]⟩, ⟨#[100, 105, 114]⟩, ⟨#[100, 105, 118]⟩, ⟨#[100, 108]⟩, ⟨#[100, 116]⟩, ⟨#[101, 109, 98, 101, 100]⟩, ⟨#[102, 105, 101, 108, 100, 115, 101, 116]⟩, ⟨#[102, 105, 103, 99, 97, 112, 116, 105, 111, 110]⟩, ⟨#[102, 105, 103, 117, 114, 101]⟩, ⟨#[102, 111, 111, 116, 101, 114]⟩, ⟨#[102, 111, 114, 109]⟩, ⟨#[102, 114, 97, 109, 101]⟩, ⟨#[102, 114, 97, 109, 101, 115, 101, 116]⟩, ⟨#[104, 49]⟩, ⟨#[104, 50]⟩, ⟨#[104, 51]⟩, ⟨#[104, 52]⟩, ⟨#[104, 53]⟩, ⟨#[104, 54]⟩, ⟨#[104, 101, 97, 100]⟩, ⟨#[104, 101, 97, 100, 101, 114]⟩, ⟨#[104, 103, 114, 111, 117, 112]⟩, ⟨#[104, 114]⟩, ⟨#[104, 116, 109, 108]⟩, ⟨#[105, 102, 114, 97, 109, 101]⟩, ⟨#[105, 109, 103]⟩, ⟨#[105, 110, 112, 117, 116]⟩, ⟨#[107, 101, 121, 103, 101, 110]⟩, ⟨#[108, 105]⟩, ⟨#[108, 105, 110, 107]⟩, ⟨#[108, 105, 115, 116, 105, 110, 103]⟩, ⟨#[109, 97, 105, 110]⟩, ⟨#[109, 97, 114, 113, 117, 101, 101]⟩, ⟨#[109, 101, 110, 117]⟩, ⟨#[109, 101, 116, 97]⟩, ⟨#[110, 97, 118]⟩, ⟨#[110, 111, 101, 109, 98, 101, 100]⟩, ⟨#[110, 111, 102, 114, 97, 109, 101, 115]⟩, ⟨#[110, 111, 115, 99, 114, 105, 112, 116]⟩, ⟨#[111, 98, 106, 101, 99, 116]⟩, ⟨#[111, 108]⟩, ⟨#[112]⟩, ⟨#[112, 97, 114, 97, 109]⟩, ⟨#[112, 108, 97, 105, 110, 116, 101, 120, 116]⟩, ⟨#[112, 114, 101]⟩, ⟨#[115, 99, 114, 105, 112, 116]⟩, ⟨#[115, 101, 97, 114, 99, 104]⟩, ⟨#[115, 101, 99, 116, 105, 111, 110]⟩, ⟨#[115, 101, 108, 101, 99, 116]⟩, ⟨#[115, 111, 117, 114, 99, 101]⟩, ⟨#[115, 116, 121, 108, 101]⟩, ⟨#[115, 117, 109, 109, 97, 114, 121]⟩, ⟨#[116, 97, 98, 108, 101]⟩, ⟨#[116, 98, 111, 100, 121]⟩, ⟨#[116, 100]⟩, ⟨#[116, 101, 109, 112, 108, 97, 116, 101]⟩, ⟨#[116, 101, 120, 116, 97, 114, 101, 97]⟩, ⟨#[116, 102, 111, 111, 116]⟩, ⟨#[116, 104]⟩, ⟨#[116, 104, 101, 97, 100]⟩, ⟨#[116, 105, 116, 108, 101]⟩, ⟨#[116, 114]⟩, ⟨#[116, 114, 97, 99, 107]⟩, ⟨#[117, 108]⟩, ⟨#[119, 98, 114]⟩, ⟨#[120, 109, 112]⟩]

set_option maxHeartbeats 2000000 in
theorem isTableBorder_any (c : Cal) (w : World) : Calls Try.prog 133 #[c.agg] w fun e w' => e = .returned (.bool (amongM c 0 tblT)) ∧ Below w.heap.size w w' := by
  have HA : Hid (∀ w1, Below ((w.alloc (.cells #[.int .i64 c.space, .string c.name] 100)).alloc (.cells (sRow tblT) 164)).heap.size ((w.alloc (.cells #[.int .i64 c.space, .string c.name] 100)).alloc (.cells (sRow tblT) 164)) w1 →
      Calls Try.prog 115 #[c.agg, .int .i64 0, .slice (some ⟨w.heap.size + 1, 0, none⟩) 3 3] w1 fun e w' => e = .returned (.bool (amongM c 0 tblT)) ∧ Below w.heap.size w w') := hide (fun w1 hb => by
    have h := tab_new (w.alloc (.cells #[.int .i64 c.space, .string c.name] 100)) tblT 164
    rw [World.size_alloc] at h
    refine (isAmong_any c 0 tblT (by decide) (w.heap.size + 1) w1 (h.below hb)).mono ?_
    rintro e w' ⟨rfl, hb2⟩
    have b1 : Below w.heap.size w w1 := (((Below.refl _ w).alloc (Nat.le_refl _) _).alloc (by simp) _).trans (hb.mono (by simp; omega))
    exact ⟨rfl, b1.trans (hb2.mono b1.size)⟩)
  generalize amongM c 0 tblT = r at *
  obtain ⟨cs, cn⟩ := c
  simp only [Cal.agg] at *
  go_enter Try.func133, Try.ntmps133
  go_wp2_with fail
  go_region_with (go_at_call 115; refine ((unhide HA) _ (by first | exact Below.refl _ _ | exact (Below.refl _ _).drew | exact below_dn (Below.refl _ _) _ | exact (Below.refl _ _).drew.drew)).mono ?_; rintro e w' ⟨rfl, hb⟩; have HB := hide hb; clear hb)
  all_goals go_wp2
  all_goals go_ret
  all_goals exact ⟨rfl, unhide HB⟩

set_option maxHeartbeats 2000000 in
theorem isImplied_any (c : Cal) (w : World) : Calls Try.prog 73 #[c.agg] w fun e w' => e = .returned (.bool (amongM c 0 impT)) ∧ Below w.heap.size w w' := by
  have HA : Hid (∀ w1, Below ((w.alloc (.cells #[.int .i64 c.space, .string c.name] 100)).alloc (.cells (sRow impT) 147)).heap.size ((w.alloc (.cells #[.int .i64 c.space, .string c.name] 100)).alloc (.cells (sRow impT) 147)) w1 →
      Calls Try.prog 115 #[c.agg, .int .i64 0, .slice (some ⟨w.heap.size + 1, 0, none⟩) 10 10] w1 fun e w' => e = .returned (.bool (amongM c 0 impT)) ∧ Below w.heap.size w w') := hide (fun w1 hb => by
    have h := tab_new (w.alloc (.cells #[.int .i64 c.space, .string c.name] 100)) impT 147
    rw [World.size_alloc] at h
    refine (isAmong_any c 0 impT (by decide) (w.heap.size + 1) w1 (h.below hb)).mono ?_
    rintro e w' ⟨rfl, hb2⟩
    have b1 : Below w.heap.size w w1 := (((Below.refl _ w).alloc (Nat.le_refl _) _).alloc (by simp) _).trans (hb.mono (by simp; omega))
    exact ⟨rfl, b1.trans (hb2.mono b1.size)⟩)
  generalize amongM c 0 impT = r at *
  obtain ⟨cs, cn⟩ := c
  simp only [Cal.agg] at *
  go_enter Try.func73, Try.ntmps73
  go_wp2_with fail
  go_region_with (go_at_call 115; refine ((unhide HA) _ (by first | exact Below.refl _ _ | exact (Below.refl _ _).drew | exact below_dn (Below.refl _ _) _ | exact (Below.refl _ _).drew.drew)).mono ?_; rintro e w' ⟨rfl, hb⟩; have HB := hide hb; clear hb)
  all_goals go_wp2
  all_goals go_ret
  all_goals exact ⟨rfl, unhide HB⟩

set_option maxHeartbeats 2000000 in
theorem isTablePart_any (c : Cal) (w : World) : Calls Try.prog 75 #[c.agg] w fun e w' => e = .returned (.bool (amongM c 0 partT)) ∧ Below w.heap.size w w' := by
  have HA : Hid (∀ w1, Below ((w.alloc (.cells #[.int .i64 c.space, .string c.name] 100)).alloc (.cells (sRow partT) 149)).heap.size ((w.alloc (.cells #[.int .i64 c.space, .string c.name] 100)).alloc (.cells (sRow partT) 149)) w1 →
      Calls Try.prog 115 #[c.agg, .int .i64 0, .slice (some ⟨w.heap.size + 1, 0, none⟩) 8 8] w1 fun e w' => e = .returned (.bool (amongM c 0 partT)) ∧ Below w.heap.size w w') := hide (fun w1 hb => by
    have h := tab_new (w.alloc (.cells #[.int .i64 c.space, .string c.name] 100)) partT 149
    rw [World.size_alloc] at h
    refine (isAmong_any c 0 partT (by decide) (w.heap.size + 1) w1 (h.below hb)).mono ?_
    rintro e w' ⟨rfl, hb2⟩
    have b1 : Below w.heap.size w w1 := (((Below.refl _ w).alloc (Nat.le_refl _) _).alloc (by simp) _).trans (hb.mono (by simp; omega))
    exact ⟨rfl, b1.trans (hb2.mono b1.size)⟩)
  generalize amongM c 0 partT = r at *
  obtain ⟨cs, cn⟩ := c
  simp only [Cal.agg] at *
  go_enter Try.func75, Try.ntmps75
  go_wp2_with fail
  go_region_with (go_at_call 115; refine ((unhide HA) _ (by first | exact Below.refl _ _ | exact (Below.refl _ _).drew | exact below_dn (Below.refl _ _) _ | exact (Below.refl _ _).drew.drew)).mono ?_; rintro e w' ⟨rfl, hb⟩; have HB := hide hb; clear hb)
  all_goals go_wp2
  all_goals go_ret
  all_goals exact ⟨rfl, unhide HB⟩
end Go.Proofs.Ytmllhebmaldgfaa
