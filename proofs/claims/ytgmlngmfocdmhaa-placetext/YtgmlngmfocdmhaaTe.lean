import Derived.Test.YtgmlngmfocdmhaaTd
import Derived.Test.YtgmlngmfocdmhaaTp
/-
  PlaceText: Chars of any row onto what stands there; a growing row of code points beside an arena.
-/
namespace Go.Proofs.Ytgmlngmfocdmhaa
open Go.RowKit

/-- The arena after the code points xs. -/
def St (xs : List Int) : List OneM := if xs = [] then S0 else S1 (strE xs)
theorem strE_append (xs l : List Int) : strE (xs ++ l) = strE xs ++ strE l := by
  apply ByteArray.ext
  simp [strE, encL_append]

theorem RunesIn.runs {w : World} {a : Option Addr} {l : List Int} (h : RunesIn w a l) : RunsIn w a l := fun i x hi => (h i x hi).1

def rpOb (base : Nat) (p : PartR) : Ob base := ⟨fun w F => PartRA w base p ∧ ∀ k, F k ↔ p.own = some k, fun _ _ k h hk => ⟨(h.1.own_lt ((h.2 k).1 hk)).1, (h.1.own_lt ((h.2 k).1 hk)).2.1⟩, fun _ _ _ _ h hm hG => ⟨h.1.mod hm (fun k hk => hG k ((h.2 k).2 hk)), h.2⟩⟩

section
variable {w wx : World} {obs : List (Ob w.heap.size)} {i bA : Nat}
theorem Env.rp (h : Env w wx obs) {p : PartR} (hi : obs[i]? = some (rpOb _ p)) : PartRA wx w.heap.size p ∧ ∀ w2 p2, PartRA w2 w.heap.size p2 → wx.grownBy w2 p.own → (p2.own = p.own ∨ p2.own = some wx.heap.size) → Env w w2 (obs.set i (rpOb _ p2)) := by
  obtain ⟨F, ⟨hp, hF⟩, _, hk⟩ := h.upd hi
  refine ⟨hp, fun w2 p2 h1 h2 h3 => ?_⟩
  refine hk w2 (rpOb _ p2) (fun k => p2.own = some k) ⟨h1, fun _ => Iff.rfl⟩ (Mod.grown h2 (fun k hk => (hF k).2 hk)) (fun k hk => ?_)
  rcases h3 with e | e
  · rw [e] at hk; exact .inl ((hF k).2 hk)
  · rw [e] at hk; cases hk; exact .inr (Nat.le_refl _)
theorem Env.rp0 (h : Env w wx obs) : Env w wx (obs ++ [rpOb _ ⟨none, 0, []⟩]) :=
  h.add (Below.refl _ _) (o := rpOb _ ⟨none, 0, []⟩) (F := fun _ => False) ⟨PartRA.nil _ _ _, fun k => ⟨fun e => e.elim, fun e => by simp [PartR.own] at e⟩⟩ (fun k e => e.elim)
theorem akids_any {os : List OneM} (h : Env w wx obs) (hi : obs[i]? = some (aO _ bA os)) (k : Int) :
    Calls Try.prog 7 #[.pointer (some ⟨bA, 0, none⟩), .int .i64 k] wx fun e w' => ∃ a c, e = .returned (.slice a (kidsO os k).length c) ∧ Below wx.heap.size wx w' := by
  obtain ⟨ns, F, h1, hs, _⟩ := h.a hi
  refine (kids_sim h1 hs k).mono ?_
  rintro e w' ⟨v, rfl, ho, hb⟩
  obtain ⟨a, c, rfl, _⟩ := ownsRow_ints ho
  exact ⟨a, c, rfl, hb⟩

set_option maxRecDepth 100000 in
theorem chars_empty {os : List OneM} (h : Env w wx obs) (hi : obs[i]? = some (aO _ bA os)) (a : Option Addr) (cap : Nat) :
    Calls Try.prog 6 #[.pointer (some ⟨bA, 0, none⟩), .agg #[.int .i64 1, .int .i64 (-1)], .slice a 0 cap] wx fun e w' => e = .returned (.int .i64 0) ∧ Below wx.heap.size wx w' := by
  have HE := hide h
  have HA := hide (fun W (hW : Env w W obs) => amadeA hW hi)
  clear h hi
  go_enter Try.func6, Try.ntmps6
  go_wp2_with (first
    | (go_at_call 16; refine ((unhide HA) _ ((unhide HE).more (below_new _ _))).mono ?_; rintro e w1 ⟨rfl, rfl⟩))
  go_ret
  exact ⟨rfl, below_new _ _⟩

theorem chars_any (h : Env w wx obs) {xs : List Int} (hi : obs[i]? = some (aO _ bA (St xs))) {a : Option Addr} {l : List Int} (hin : RunesIn wx a l) (hl : l.length ≤ 1000) (hx : xs.length ≤ 200000) (cap : Nat) :
    Calls Try.prog 6 #[.pointer (some ⟨bA, 0, none⟩), .agg #[.int .i64 1, .int .i64 (-1)], .slice a l.length cap] wx fun e w' => e = .returned (.int .i64 0) ∧ Env w w' (obs.set i (aO _ bA (St (xs ++ l)))) := by
  by_cases h0 : l = []
  · subst h0
    refine (chars_empty h hi a cap).mono ?_
    rintro e w' ⟨rfl, hb⟩
    rw [List.append_nil, set_self hi]
    exact ⟨rfl, h.more hb⟩
  · have hne : xs ++ l ≠ [] := by simp [h0]
    have e2 : St (xs ++ l) = S1 (strE (xs ++ l)) := if_neg hne
    by_cases hxs : xs = []
    · subst hxs
      rw [e2, List.nil_append]
      exact chars_first h hi hin hl h0 cap
    · have e1 : St xs = S1 (strE xs) := if_neg hxs
      rw [e1] at hi
      rw [e2, strE_append]
      refine chars_more h hi hin hl h0 cap ?_
      rw [← strE_append, strE_size]
      have := (encL_len (xs ++ l)).2
      rw [List.length_append] at this
      omega
end
/-- What string(all) is. -/
theorem runes_str {w : World} {base : Nat} {p : PartR} (hp : PartRA w base p) (h0 : p.xs ≠ []) : (convert 30 9 p.val).run Try.prog w = .ok (.string (strE p.xs)) w := by
  have hpos := List.length_pos_iff.2 h0
  have hc : 0 < p.cap := Nat.lt_of_lt_of_le hpos hp.len
  obtain ⟨g, off, cur, ha, _, hg, _, hcell⟩ := hp.cellsAll hc
  have e : runesBytes p.xs = strE p.xs := by
    apply ByteArray.ext
    apply Array.ext'
    rw [runesBytes_eq]
    simp [strE]
  unfold PartR.val
  rw [ha, ← e]
  have h := run_convert_runes (P := Try.prog) w 30 9 21 ⟨g, off, none⟩ p.xs.length p.cap p.xs (Nat.le_refl _) Try.underlying30 Try.underlying21 Try.underlying9 (fun j hj => by
    rw [add_at, cell_row _ _ _ _ _ _ hg, hcell j p.xs[j] (List.getElem?_eq_getElem hj)]
    simp [List.getD, List.getElem?_eq_getElem hj])
  rw [List.take_length] at h
  exact h
end Go.Proofs.Ytgmlngmfocdmhaa
