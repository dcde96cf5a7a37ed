/-
   
-/
import Derived.Test.YtmnmaenmoaehlaaGreatDoorSZae
namespace Go.Proofs.YtmnmaenmoaehlaaGreatDoor
open Go.RowKit

/-- The document's arena at bR with these nodes, in the blocks G. -/
def RfS (w : World) (base bR : Nat) (os : List OneM) (G : Nat → Prop) : Prop := ∃ g cap rs, Rf w base bR g cap rs ∧ osOf rs = os ∧ ∀ k, G k ↔ footR bR g rs k
/-- Behind a call the arena has the nodes os; only its own blocks were written. -/
def URf (G : Nat → Prop) (w w' : World) (base bR : Nat) (os : List OneM) : Prop := ∃ G', RfS w' base bR os G' ∧ Mod G w w' ∧ ∀ k, G' k → G k ∨ w.heap.size ≤ k

section
variable {w w' : World} {base bR : Nat} {os : List OneM} {G : Nat → Prop}

theorem RfS.lt (h : RfS w base bR os G) {k : Nat} (hk : G k) : base ≤ k ∧ k < w.heap.size := by
  obtain ⟨g, cap, rs, h, _, hG⟩ := h
  exact h.foot_lt ((hG k).1 hk)
theorem RfS.mod {F : Nat → Prop} (h : RfS w base bR os G) (hm : Mod F w w') (hF : ∀ k, G k → ¬ F k) : RfS w' base bR os G := by
  obtain ⟨g, cap, rs, h, ho, hG⟩ := h
  exact ⟨g, cap, rs, h.mod hm (fun k hk => hF k ((hG k).2 hk)), ho, hG⟩
theorem RfS.below (h : RfS w base bR os G) (hb : Below w.heap.size w w') : RfS w' base bR os G := by
  obtain ⟨g, cap, rs, h, ho, hG⟩ := h
  exact ⟨g, cap, rs, h.below hb, ho, hG⟩
theorem RfS.upd (h : RfS w base bR os G) (hb : Below w.heap.size w w') : URf G w w' base bR os := ⟨G, h.below hb, Mod.of_below hb, fun _ hk => .inl hk⟩
theorem URf.after {w1 w2 : World} (hb : Below w.heap.size w w1) (h : URf G w1 w2 base bR os) : URf G w w2 base bR os := by
  obtain ⟨G', h1, h2, h3⟩ := h
  exact ⟨G', h1, (Mod.of_below hb).trans h2, fun k hk => (h3 k hk).imp id (fun h => Nat.le_trans hb.size h)⟩
theorem URf.then {w1 w2 : World} (h : URf G w w1 base bR os) (hb : Below w1.heap.size w1 w2) : URf G w w2 base bR os := by
  obtain ⟨G', h1, h2, h3⟩ := h
  exact ⟨G', h1.below hb, h2.trans (Mod.of_below hb), h3⟩

/-- A node more: what becomes of the blocks. -/
theorem urf_add {w0 : World} {g g' cap' : Nat} {rs : List OneR} (hG : ∀ k, G k ↔ footR bR g rs k) (hb : Below w0.heap.size w0 w) (r : OneR) (h : Rf w' base bR g' cap' (rs ++ [r])) (hm : Mod (fun k => k = bR ∨ k = g) w w') (hg : g' = g ∨ w.heap.size ≤ g')
    (hr : ∀ k, (blk r.av = some k ∨ blk r.kv = some k) → G k ∨ w0.heap.size ≤ k) : URf G w0 w' base bR (osOf rs ++ [r.o]) := by
  refine ⟨_, ⟨g', cap', _, h, by simp [osOf], fun k => Iff.rfl⟩, (Mod.of_below hb).trans (hm.mono (fun k _ hk => (hG k).2 (hk.imp id .inl))), fun k hk => ?_⟩
  rcases hk with rfl | rfl | ⟨x, hx, hk⟩
  · exact .inl ((hG _).2 (.inl rfl))
  · rcases hg with rfl | hg
    · exact .inl ((hG _).2 (.inr (.inl rfl)))
    · exact .inr (Nat.le_trans hb.size hg)
  · rcases List.mem_append.1 hx with hx | hx
    · exact .inl ((hG k).2 (.inr (.inr ⟨x, hx, hk⟩)))
    · simp at hx; subst hx; exact hr k hk

/-- What add gives, told by the plain nodes. -/
theorem refAdd_sim {w0 : World} {g cap : Nat} {rs : List OneR} (h : Rf w base bR g cap rs) (hG : ∀ k, G k ↔ footR bR g rs k) (hb : Below w0.heap.size w0 w) (r : OneR) (hl : Lists w base bR g r) (q : OneM) (hq : r.free.o = q)
    (hr : ∀ k, (blk r.av = some k ∨ blk r.kv = some k) → G k ∨ w0.heap.size ≤ k) :
    Calls Tryz.prog 38 #[.pointer (some ⟨bR, 0, none⟩), r.agg] w fun e w' => e = .returned (.tuple #[.int .i64 (addO (osOf rs) q).2.1, .int .i64 (addO (osOf rs) q).2.2]) ∧ URf G w0 w' base bR (addO (osOf rs) q).1 := by
  unfold addO
  rw [osOf_len]
  by_cases hf : rs.length + 1 ≤ 32768
  · simp only [hf, if_true]
    refine (refAdd_fits h r hl hf).mono fun e w' ⟨h1, g', cap', h2, h3, h4⟩ => ⟨h1, ?_⟩
    rw [← hq]
    exact urf_add hG hb r.free h2 h3 h4 hr
  · simp only [hf, if_false]
    obtain ⟨a1, k1, e1, _⟩ := hl.attrs
    obtain ⟨a2, k2, e2, _⟩ := hl.kids
    refine (refAdd_full h r ⟨_, _, _, e1⟩ ⟨_, _, _, e2⟩ hf).mono fun e w' ⟨h1, h2⟩ => ⟨h1, ?_⟩
    exact ⟨G, ⟨g, cap, rs, h.below h2, rfl, hG⟩, (Mod.of_below hb).trans (Mod.of_below h2), fun _ hk => .inl hk⟩

def bareR (q : OneM) : OneR := { o := { q with inner := 0, host := 0, up := 0 }, av := .slice none 0 0, kv := .slice none 0 0 }

set_option maxHeartbeats 1000000 in
theorem refFragment_sim (h : RfS w base bR os G) :
    Calls Tryz.prog 39 #[.pointer (some ⟨bR, 0, none⟩)] w fun e w' => e = .returned (.tuple #[.int .i64 (fragO os).2.1, .int .i64 (fragO os).2.2]) ∧ URf G w w' base bR (fragO os).1 := by
  obtain ⟨g, cap, rs, h, rfl, hG⟩ := h
  have HC := hide (refAdd_sim h hG (Below.refl _ w) (bareR (oneM 5)) (lists_bare _ _ _ _ _ rfl rfl rfl rfl) (oneM 5) rfl (by simp [bareR, blk]))
  unfold fragO
  generalize addO (osOf rs) (oneM 5) = res at *
  clear h hG
  go_enter Tryz.func39, Tryz.ntmps39
  go_wp2_with (go_at_call 38; refine (unhide HC).mono ?_; rintro e w' ⟨rfl, hu⟩)
  go_ret2
  exact ⟨rfl, hu⟩

set_option maxHeartbeats 1000000 in
theorem refText_sim (h : RfS w base bR os G) (s : ByteArray) :
    Calls Tryz.prog 17 #[.pointer (some ⟨bR, 0, none⟩), .string s] w fun e w' => e = .returned (.tuple #[.int .i64 (dataO os 2 s).2.1, .int .i64 (dataO os 2 s).2.2]) ∧ URf G w w' base bR (dataO os 2 s).1 := by
  have hS := h
  obtain ⟨g, cap, rs, h, rfl, hG⟩ := h
  have HL := hide (refLong_any (w.alloc (.cells #[.string s] 9)) w.heap.size 1 [s] (one_cell_s w 9 s) (by simp))
  have e1 : [s].any longS = longS s := by simp
  rw [e1] at HL
  have hb : Below w.heap.size w (w.alloc (.cells #[.string s] 9)) := (Below.refl _ w).alloc (Nat.le_refl _) _
  have HC := hide (refAdd_sim (h.below hb) hG hb (bareR (dataQ 2 s)) (lists_bare _ _ _ _ _ rfl rfl rfl rfl) (dataQ 2 s) rfl (by simp [bareR, blk]))
  have HS := hide (hS.upd hb)
  unfold dataO
  generalize addO (osOf rs) (dataQ 2 s) = res at *
  clear h hG hS hb e1
  cases hl : longS s with
  | true =>
    rw [hl] at HL
    go_enter Tryz.func17, Tryz.ntmps17
    go_wp2_with (first
      | (go_at_call 37; refine (unhide HL).mono ?_; rintro e w' ⟨rfl, rfl⟩)
      | (go_at_call 38; refine (unhide HC).mono ?_; rintro e w' ⟨rfl, hu⟩))
    go_ret2
    exact ⟨rfl, unhide HS⟩
  | false =>
    rw [hl] at HL
    go_enter Tryz.func17, Tryz.ntmps17
    go_wp2_with (first
      | (go_at_call 37; refine (unhide HL).mono ?_; rintro e w' ⟨rfl, rfl⟩)
      | (go_at_call 38; refine (unhide HC).mono ?_; rintro e w' ⟨rfl, hu⟩))
    go_ret2
    exact ⟨rfl, hu⟩

end
end Go.Proofs.YtmnmaenmoaehlaaGreatDoor

namespace Go.Proofs.YtmnmaenmoaehlaaGreatDoor
open Go.RowKit

section
variable {w w' : World} {base bR : Nat} {os : List OneM} {G : Nat → Prop}

theorem refElement_space (space : Int) (name : ByteArray) (v : Value) (h0 : space < 0 ∨ 2 < space) :
    Calls Tryz.prog 13 #[.pointer (some ⟨bR, 0, none⟩), .int .i64 space, .string name, v] w fun e w' => e = .returned (.tuple #[.int .i64 0, .int .i64 1]) ∧ w = w' := by
  rcases h0 with h0 | h0
  · go_enter Tryz.func13, Tryz.ntmps13
    go_wp2
    go_ret2
    exact ⟨rfl, rfl⟩
  · have h1 : ¬ space < 0 := by omega
    go_enter Tryz.func13, Tryz.ntmps13
    go_wp2
    go_ret2
    exact ⟨rfl, rfl⟩

theorem refElement_many (space : Int) (name : ByteArray) (a : Option Addr) (cap n : Nat) (hs : 0 ≤ space ∧ space ≤ 2) (hn : n ≤ maxLen) (h : 1024 < n ∨ longS name = true) :
    Calls Tryz.prog 13 #[.pointer (some ⟨bR, 0, none⟩), .int .i64 space, .string name, .slice a n cap] w fun e w' => e = .returned (.tuple #[.int .i64 0, .int .i64 2]) ∧ w = w' := by
  have h1 : ¬ space < 0 := by omega
  have h2 : ¬ 2 < space := by omega
  unfold maxLen at hn
  unfold longS at h
  by_cases hc : 1024 < n
  · have hc' : (1024 : Int) < (n : Int) := by omega
    go_enter Tryz.func13, Tryz.ntmps13
    go_wp2
    go_ret2
    exact ⟨rfl, rfl⟩
  · have hc' : ¬ (1024 : Int) < (n : Int) := by omega
    have hl : 1048576 < name.size := by simpa [hc] using h
    have hl' : (1048576 : Int) < (name.size : Int) := by omega
    go_enter Tryz.func13, Tryz.ntmps13
    go_wp2
    go_ret2
    exact ⟨rfl, rfl⟩

end
end Go.Proofs.YtmnmaenmoaehlaaGreatDoor
