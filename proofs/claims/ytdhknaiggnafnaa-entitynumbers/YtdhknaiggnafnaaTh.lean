/-
  Package entity's code points of a name; the document's names of two code points; code points in memory.
-/
import Derived.Test.YtdhknaiggnafnaaTg
namespace Go.Proofs.Ytdhknaiggnafnaa
open Go.RowKit Go.Lib

/-- The second code point of the few names that have two. -/
def secL (t : List UInt8) : Option Int :=
  bif t == [110, 118, 108, 116, 59] then some 8402 else bif t == [98, 110, 101, 59] then some 8421 else bif t == [102, 106, 108, 105, 103, 59] then some 106 else bif t == [97, 99, 69, 59] then some 819 else none
def ptsOf (x : ByteArray × Int) : List Int := x.2 :: (secL x.1.toList).toList

/-- Code points in memory. -/
def RunesAt (w : World) (l : List Int) (v : Value) : Prop :=
  (l = [] ∧ v = .slice none 0 0) ∨ ∃ b, v = .slice (some ⟨b, 0, none⟩) l.length l.length ∧ w.heap[b]? = some (.cells (l.map (Value.int .i32)).toArray 21 (0, 0))
theorem RunesAt.keep {w w' : World} {l : List Int} {v : Value} (h : RunesAt w l v) (hw : Below w.heap.size w w') : RunesAt w' l v := by
  rcases h with h | ⟨b, e, hb⟩
  · exact .inl h
  · exact .inr ⟨b, e, (hw.block b (lt_of_block hb)).trans hb⟩

theorem second_at (t : ByteArray) (p : Int) (w : World) : Calls Try.prog 36 #[.agg #[.string t, .int .i32 p]] w fun e w' => e = .returned (.tuple #[.int .i32 ((secL t.toList).getD 0), .bool (secL t.toList).isSome]) ∧ Below w.heap.size w w' := by
  have hB : Hid (∀ v, Below w.heap.size w (w.alloc v)) := hide (fun v => (Below.refl _ _).alloc (Nat.le_refl _) _)
  cases h1 : t.toList == [110, 118, 108, 116, 59] with
  | true =>
    have HE : Hid (secL t.toList = some 8402) := hide (by unfold secL; rw [h1]; rfl)
    go_enter Try.func36, Try.ntmps36
    go_wp2
    go_ret2
    exact ⟨by rw [unhide HE]; rfl, unhide hB _⟩
  | false =>
    cases h2 : t.toList == [98, 110, 101, 59] with
    | true =>
      have HE : Hid (secL t.toList = some 8421) := hide (by unfold secL; rw [h1, h2]; rfl)
      go_enter Try.func36, Try.ntmps36
      go_wp2
      go_ret2
      exact ⟨by rw [unhide HE]; rfl, unhide hB _⟩
    | false =>
      cases h3 : t.toList == [102, 106, 108, 105, 103, 59] with
      | true =>
        have HE : Hid (secL t.toList = some 106) := hide (by unfold secL; rw [h1, h2, h3]; rfl)
        go_enter Try.func36, Try.ntmps36
        go_wp2
        go_ret2
        exact ⟨by rw [unhide HE]; rfl, unhide hB _⟩
      | false =>
        cases h4 : t.toList == [97, 99, 69, 59] with
        | true =>
          have HE : Hid (secL t.toList = some 819) := hide (by unfold secL; rw [h1, h2, h3, h4]; rfl)
          go_enter Try.func36, Try.ntmps36
          go_wp2
          go_ret2
          exact ⟨by rw [unhide HE]; rfl, unhide hB _⟩
        | false =>
          have HE : Hid (secL t.toList = none) := hide (by unfold secL; rw [h1, h2, h3, h4]; rfl)
          go_enter Try.func36, Try.ntmps36
          go_wp2
          go_ret2
          exact ⟨by rw [unhide HE]; rfl, unhide hB _⟩

theorem new_block (w : World) (ob : Obj) : (w.alloc ob).heap[w.heap.size]? = some ob := heap_alloc_new w ob
theorem kept_block {w w' : World} {ob : Obj} (hw : Below (w.alloc ob).heap.size (w.alloc ob) w') : w'.heap[w.heap.size]? = some ob :=
  (hw.block _ (by simp)).trans (new_block w ob)
theorem cell_of {w : World} {b o : Nat} {cs : Array Value} {t : TypeId} {fr : Nat × Nat} {v : Value} (h : w.heap[b]? = some (.cells cs t fr)) (hv : cs[o]? = some v) : w.cell? ⟨b, o, none⟩ = some v := by
  simp [World.cell?, h, hv]
theorem below_boxed {w w' : World} {ob : Obj} (hw : Below (w.alloc ob).heap.size (w.alloc ob) w') : Below w.heap.size w w' :=
  ((Below.refl _ _).alloc (Nat.le_refl _) _).trans (hw.mono (by simp))

theorem points_at (t : ByteArray) (p : Int) (w : World) : Calls Try.prog 21 #[.agg #[.string t, .int .i32 p]] w fun e w' => ∃ v, e = .returned v ∧ RunesAt w' (ptsOf (t, p)) v ∧ Below w.heap.size w w' := by
  cases hs : secL t.toList with
  | some q =>
    have HE : Hid (ptsOf (t, p) = [p, q]) := hide (by unfold ptsOf; simp only []; rw [hs]; rfl)
    have HS := hide (fun w => by have := second_at t p w; rw [hs] at this; exact this)
    clear hs
    go_enter Try.func21, Try.ntmps21
    go_wp2_with (go_at_call 36; refine (unhide HS _).mono ?_; rintro e w' ⟨rfl, hw⟩; have hc1 := cell_of (o := 1) (kept_block hw) rfl; have hbb := hide (below_boxed hw); clear hw)
    go_ret
    refine ⟨_, rfl, .inr ⟨w'.heap.size, ?_, ?_⟩, ?_⟩
    · rw [unhide HE]; rfl
    · rw [unhide HE]; exact new_block _ _
    · exact (unhide hbb).alloc (unhide hbb).size _
  | none =>
    have HE : Hid (ptsOf (t, p) = [p]) := hide (by unfold ptsOf; simp only []; rw [hs]; rfl)
    have HS := hide (fun w => by have := second_at t p w; rw [hs] at this; exact this)
    clear hs
    go_enter Try.func21, Try.ntmps21
    go_wp2_with (go_at_call 36; refine (unhide HS _).mono ?_; rintro e w' ⟨rfl, hw⟩; have hc1 := cell_of (o := 1) (kept_block hw) rfl; have hbb := hide (below_boxed hw); clear hw)
    go_ret
    refine ⟨_, rfl, .inr ⟨w'.heap.size, ?_, ?_⟩, ?_⟩
    · rw [unhide HE]; rfl
    · rw [unhide HE]; exact new_block _ _
    · exact (unhide hbb).alloc (unhide hbb).size _
end Go.Proofs.Ytdhknaiggnafnaa
