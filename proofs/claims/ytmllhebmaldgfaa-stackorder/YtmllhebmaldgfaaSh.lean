/-
  Is an element of a name in a scope?
-/
import Derived.Test.YtmllhebmaldgfaaSf
namespace Go.Proofs.Ytmllhebmaldgfaa
open Go.RowKit

section
variable {w w1 : World} {base bK bA : Nat} {ks : List Key} {L : List Int} {F FA : Nat → Prop}
theorem named_1 (c : Cal) {b0 b1 b2 b3 b4 ok : Bool} (n : ByteArray) (id : Int) (b : Nat) (w : World) (hc : w.cell? ⟨b, 0, none⟩ = some (.string n)) : Calls Try.prog 66 #[.int .i64 id, .agg #[.int .i64 c.space, .string c.name, .bool b0, .bool b1, .bool b2, .bool b3, .bool b4, .bool ok], .pointer (some ⟨b, 0, none⟩)] w fun e w' => e = .returned (.bool (namedM c n)) ∧ Below w.heap.size w w' := by
  have hlt : b < w.heap.size := World.block_lt_of_cell? w _ hc
  have HN : Hid (∀ w1, Calls Try.prog 67 #[.agg #[.int .i64 c.space, .string c.name], .string n] w1 fun e w' => e = .returned (.bool (namedM c n)) ∧ Below w1.heap.size w1 w') := hide (fun w1 => isNamed_any c n w1)
  generalize namedM c n = r at *
  obtain ⟨cs, cn⟩ := c
  simp only at *
  go_enter Try.func66, Try.ntmps66
  go_wp2_with (go_at_call 67; refine ((unhide HN) _).mono ?_; rintro e w1 ⟨rfl, hb⟩; have HB := hide (below_box hb); clear hb)
  go_ret
  exact ⟨rfl, unhide HB⟩

theorem enters66 : ∀ args w, (callFunc 66 args).run Try.prog w = .ok (.enter 66 args) w := enters_of Try.func66 (by kernel_rfl) rfl
set_option maxHeartbeats 1000000 in
theorem scope_any (ha : ArK w base bA ks FA) (hs : StkS w base bK bA (elOf ks) L F) (hd : ∀ k, FA k → ¬ F k) (hg : Good ks L) (name : ByteArray) (kind : Int) : Calls Try.prog 20 #[.pointer (some ⟨bK, 0, none⟩), .string name, .int .i64 kind] w fun e w' => e = .returned (.bool (scopeM ks L name kind)) ∧ UpdS F w w' base bK bA (elOf ks) L := by
  have HC : Hid (Calls Try.prog 65 #[.pointer (some ⟨bK, 0, none⟩), .int .i64 kind, .func (.func 66) #[] #[.pointer (some ⟨w.heap.size, 0, none⟩)]] (w.alloc (.cells #[.string name] 9)) fun e w' => e = .returned (.bool (scopeM ks L name kind)) ∧ UpdS F w w' base bK bA (elOf ks) L) := hide (by
    unfold scopeM
    by_cases hk : kind < 0 ∨ 4 < kind
    · rw [if_pos hk]
      exact (reaches_no _ kind hk _).mono fun e w' ⟨a, b⟩ => ⟨a, b ▸ hs.self.then (below_new _ _)⟩
    · rw [if_neg hk]
      refine (reaches_any 66 _ enters66 (fun id => namedM (calOf ks id) name) (ha.below (below_new _ _)) (hs.below (below_new _ _)) hd hg (fun id _ w1 hm => ?_) kind (by omega) (by omega)).mono ?_
      · exact named_1 (calOf ks id) name id w.heap.size w1 (cell_of_one ((hm.block w.heap.size (by simp) (fun hF => by have := (hs.lt hF).2; omega)).trans (heap_alloc_new w _)))
      · rintro e w' ⟨rfl, hb⟩
        exact ⟨rfl, UpdS.after (below_new _ _) hb⟩)
  generalize scopeM ks L name kind = r at *
  clear ha hs hd hg
  go_enter Try.func20, Try.ntmps20
  go_wp2_with (go_at_call 65; refine (unhide HC).mono ?_; rintro e w1 ⟨rfl, hb⟩)
  go_ret
  exact ⟨rfl, hb⟩

end
end Go.Proofs.Ytmllhebmaldgfaa
