import Derived.Test.YtmllhebmaldgfaaMake
/-
  The calls that make texts and comments, and Node.
-/
namespace Go.Proofs.Ytmllhebmaldgfaa
open Go.RowKit

theorem upd_add {w0 w w' : World} {base bA bS g g' cap' : Nat} {ns news : List NodeM} {F : Nat → Prop} (hF : ∀ k, F k ↔ foot bA bS g ns k) (hb : Below w0.heap.size w0 w)
    (h : Ar w' base bA bS g' cap' (ns ++ news)) (hm : Mod (fun k => k = bS ∨ k = g) w w') (hg : g' = g ∨ g' = w.heap.size)
    (hfresh : ∀ n ∈ news, ∀ k, n.av.ownBlock = some k → w0.heap.size ≤ k) : Upd F w0 w' base bA (ns ++ news) := by
  refine ⟨_, ⟨bS, g', cap', h, fun k => Iff.rfl⟩, ?_, ?_⟩
  · refine (Mod.of_below hb).trans (hm.mono (fun k _ hk => (hF k).2 ?_))
    rcases hk with rfl | rfl
    · exact .inr (.inl rfl)
    · exact .inr (.inr (.inl rfl))
  · intro k hk
    have hs := hb.size
    rcases hk with rfl | rfl | rfl | ⟨n, hn, hk⟩
    · exact .inl ((hF _).2 (.inl rfl))
    · exact .inl ((hF _).2 (.inr (.inl rfl)))
    · rcases hg with rfl | rfl
      · exact .inl ((hF _).2 (.inr (.inr (.inl rfl))))
      · exact .inr hs
    · rcases List.mem_append.1 hn with hn | hn
      · exact .inl ((hF _).2 (.inr (.inr (.inr ⟨n, hn, hk⟩))))
      · exact .inr (hfresh n hn k hk)

/-- Nodes without attributes may be added always. -/
theorem news_bare {w : World} {base bA bS g cap : Nat} {ns : List NodeM} (h : Ar w base bA bS g cap ns) (news : List NodeM) (hn : ∀ n ∈ news, n.av = .slice none 0 0 ∧ n.attrs = []) : News w base ns news := by
  refine ⟨fun i n hi => ?_, fun i n hi => ?_, fun i j n m hij hi hj => ?_⟩
  · have := hn n (List.mem_of_getElem? hi); rw [this.1, this.2]; exact World.ownsRow_nil _ _ _ _
  · have := hn n (List.mem_of_getElem? hi); rw [this.2]; simp
  · by_cases hl : i < ns.length
    · by_cases hl2 : j < ns.length
      · rw [List.getElem?_append_left hl] at hi; rw [List.getElem?_append_left hl2] at hj; exact h.apart i j n m hij hi hj
      · rw [List.getElem?_append_right (by omega)] at hj
        have := hn m (List.mem_of_getElem? hj)
        rw [this.1]
        cases hv : n.av.ownBlock <;> simp [Value.ownBlock]
    · rw [List.getElem?_append_right (by omega)] at hi
      have := hn n (List.mem_of_getElem? hi)
      exact .inl (by rw [this.1]; rfl)

theorem last_block (w : World) (o : Obj) (k : Nat) (hk : k = w.heap.size) : (w.alloc o).heap[k]? = some o := by subst hk; exact heap_alloc_new w o

theorem add_fits1 {w : World} {base bA bS g cap : Nat} {ns : List NodeM} (h : Ar w base bA bS g cap ns) (n : NodeM) (hn : News w base ns [n]) (hf : ns.length + 1 ≤ 32768)
    (b c : Nat) (hb : w.heap[b]? = some (.cells n.cells.toArray 44 (0, 0))) :
    Calls Try.prog 79 #[.pointer (some ⟨bA, 0, none⟩), .slice (some ⟨b, 0, none⟩) 1 c] w fun e w' =>
      e = .returned (.tuple #[.int .i64 ns.length, .int .i64 0]) ∧ ∃ g' cap', Ar w' base bA bS g' cap' (ns ++ [n]) ∧ Mod (fun k => k = bS ∨ k = g) w w' ∧ (g' = g ∨ g' = w.heap.size) :=
  add_fits h [n] hn (by simp) (by simpa using hf) b c (by simpa [nodeRow] using hb)

theorem add_fits2 {w : World} {base bA bS g cap : Nat} {ns : List NodeM} (h : Ar w base bA bS g cap ns) (n m : NodeM) (hn : News w base ns [n, m]) (hf : ns.length + 2 ≤ 32768)
    (b c : Nat) (hb : w.heap[b]? = some (.cells (n.cells ++ m.cells).toArray 44 (0, 0))) :
    Calls Try.prog 79 #[.pointer (some ⟨bA, 0, none⟩), .slice (some ⟨b, 0, none⟩) 2 c] w fun e w' =>
      e = .returned (.tuple #[.int .i64 ns.length, .int .i64 0]) ∧ ∃ g' cap', Ar w' base bA bS g' cap' (ns ++ [n, m]) ∧ Mod (fun k => k = bS ∨ k = g) w w' ∧ (g' = g ∨ g' = w.heap.size) :=
  add_fits h [n, m] hn (by simp) (by simpa using hf) b c (by simpa [nodeRow] using hb)

def dataN (kind : Int) (s : ByteArray) : NodeM := { blankM kind with data := s }

theorem one_cell_s (w : World) (t : TypeId) (x : ByteArray) : ∀ j s, [x][j]? = some s → (w.alloc (.cells #[.string x] t)).cell? ⟨w.heap.size, j, none⟩ = some (.string s) := by
  intro j s hj
  match j, hj with
  | 0, hj => simp at hj; subst hj; simp

set_option maxHeartbeats 1000000 in
theorem addData_fits {w : World} {base bA : Nat} {ns : List NodeM} {F : Nat → Prop} (h : ArS w base bA ns F) (kind : Int) (s : ByteArray) (hs : longS s = false) (hf : ns.length + 1 ≤ 32768) :
    Calls Try.prog 92 #[.pointer (some ⟨bA, 0, none⟩), .int .i64 kind, .string s] w fun e w' => e = .returned (.tuple #[.int .i64 ns.length, .int .i64 0]) ∧ Upd F w w' base bA (ns ++ [dataN kind s]) := by
  obtain ⟨bS, g, cap, h, hF⟩ := h
  have HF := hide hF
  have HM := hide (made_yes h)
  have HL := hide (anyLong_any (w.alloc (.cells #[.string s] 9)) w.heap.size 1 [s] (one_cell_s w 9 s) (by simp))
  have HH := hide h
  have hlong : [s].any longS = false := by simp [hs]
  rw [hlong] at HL
  clear h hF hlong
  go_enter Try.func92, Try.ntmps92
  go_wp2_with (first
    | (go_at_call 60; refine (unhide HM).mono ?_; rintro e w' ⟨rfl, rfl⟩)
    | (go_at_call 77; refine (unhide HL).mono ?_; rintro e w' ⟨rfl, rfl⟩)
    | (go_at_call 76; refine (blank_any _).mono ?_; rintro e w' ⟨rfl, rfl⟩))
  refine (add_fits1 (n := dataN kind s) ((((unhide HH).alloc _).alloc _).alloc _ |>.alloc _) (news_bare ((((unhide HH).alloc _).alloc _).alloc _ |>.alloc _) _ (by simp [dataN, blankM])) hf _ _ (last_block _ _ _ (by simp))).mono ?_
  rintro e w' ⟨rfl, g', cap', har, hmod, hgg⟩
  go_wp2
  go_ret2
  exact ⟨rfl, upd_add (unhide HF) (((((Below.refl _ w).alloc (Nat.le_refl _) _).alloc (by simp) _).alloc (by simp; omega) _).alloc (by simp; omega) _) har hmod hgg (by simp [dataN, blankM, Value.ownBlock])⟩

theorem addData_long {w : World} {base bA : Nat} {ns : List NodeM} {F : Nat → Prop} (h : ArS w base bA ns F) (kind : Int) (s : ByteArray) (hs : longS s = true) :
    Calls Try.prog 92 #[.pointer (some ⟨bA, 0, none⟩), .int .i64 kind, .string s] w fun e w' => e = .returned (.tuple #[.int .i64 0, .int .i64 2]) ∧ Below w.heap.size w w' := by
  obtain ⟨bS, g, cap, h, hF⟩ := h
  have HM := hide (made_yes h)
  have HL := hide (anyLong_any (w.alloc (.cells #[.string s] 9)) w.heap.size 1 [s] (one_cell_s w 9 s) (by simp))
  have hlong : [s].any longS = true := by simp [hs]
  rw [hlong] at HL
  clear h hF hlong
  go_enter Try.func92, Try.ntmps92
  go_wp2_with (first
    | (go_at_call 60; refine (unhide HM).mono ?_; rintro e w' ⟨rfl, rfl⟩)
    | (go_at_call 77; refine (unhide HL).mono ?_; rintro e w' ⟨rfl, rfl⟩))
  go_ret2
  exact ⟨rfl, (Below.refl _ w).alloc (Nat.le_refl _) _⟩

set_option maxHeartbeats 1000000 in
theorem addData_full {w : World} {base bA : Nat} {ns : List NodeM} {F : Nat → Prop} (h : ArS w base bA ns F) (kind : Int) (s : ByteArray) (hs : longS s = false) (hf : ¬ ns.length + 1 ≤ 32768) :
    Calls Try.prog 92 #[.pointer (some ⟨bA, 0, none⟩), .int .i64 kind, .string s] w fun e w' => e = .returned (.tuple #[.int .i64 0, .int .i64 9]) ∧ Below w.heap.size w w' := by
  obtain ⟨bS, g, cap, h, hF⟩ := h
  have HM := hide (made_yes h)
  have HL := hide (anyLong_any (w.alloc (.cells #[.string s] 9)) w.heap.size 1 [s] (one_cell_s w 9 s) (by simp))
  have HH := hide h
  have hlong : [s].any longS = false := by simp [hs]
  rw [hlong] at HL
  clear h hF hlong
  go_enter Try.func92, Try.ntmps92
  go_wp2_with (first
    | (go_at_call 60; refine (unhide HM).mono ?_; rintro e w' ⟨rfl, rfl⟩)
    | (go_at_call 77; refine (unhide HL).mono ?_; rintro e w' ⟨rfl, rfl⟩)
    | (go_at_call 76; refine (blank_any _).mono ?_; rintro e w' ⟨rfl, rfl⟩))
  refine (add_full ((((unhide HH).alloc _).alloc _).alloc _ |>.alloc _) _ _ 1 (by omega) hf).mono ?_
  rintro e w' ⟨rfl, rfl⟩
  go_wp2
  go_ret2
  exact ⟨rfl, (((((Below.refl _ w).alloc (Nat.le_refl _) _).alloc (by simp) _).alloc (by simp; omega) _).alloc (by simp; omega) _)⟩

/-- What a call that makes a node of a text gives: the nodes, the number, the error. -/
def dataR (ns : List NodeM) (kind : Int) (s : ByteArray) : List NodeM × Int × Int :=
  if longS s then (ns, 0, 2) else if ns.length + 1 ≤ 32768 then (ns ++ [dataN kind s], ns.length, 0) else (ns, 0, 9)

theorem addData_any {w : World} {base bA : Nat} {ns : List NodeM} {F : Nat → Prop} (h : ArS w base bA ns F) (kind : Int) (s : ByteArray) :
    Calls Try.prog 92 #[.pointer (some ⟨bA, 0, none⟩), .int .i64 kind, .string s] w fun e w' =>
      e = .returned (.tuple #[.int .i64 (dataR ns kind s).2.1, .int .i64 (dataR ns kind s).2.2]) ∧ Upd F w w' base bA (dataR ns kind s).1 := by
  cases hs : longS s with
  | true =>
    have e : dataR ns kind s = (ns, 0, 2) := by simp [dataR, hs]
    rw [e]
    exact (addData_long h kind s hs).mono fun e w' ⟨h1, h2⟩ => ⟨h1, h.upd h2⟩
  | false =>
    by_cases hf : ns.length + 1 ≤ 32768
    · have e : dataR ns kind s = (ns ++ [dataN kind s], (ns.length : Int), 0) := by simp [dataR, hs, hf]
      rw [e]
      exact addData_fits h kind s hs hf
    · have e : dataR ns kind s = (ns, 0, 9) := by simp [dataR, hs, hf]
      rw [e]
      exact (addData_full h kind s hs hf).mono fun e w' ⟨h1, h2⟩ => ⟨h1, h.upd h2⟩

theorem text_any {w : World} {base bA : Nat} {ns : List NodeM} {F : Nat → Prop} (h : ArS w base bA ns F) (s : ByteArray) :
    Calls Try.prog 37 #[.pointer (some ⟨bA, 0, none⟩), .string s] w fun e w' =>
      e = .returned (.tuple #[.int .i64 (dataR ns 2 s).2.1, .int .i64 (dataR ns 2 s).2.2]) ∧ Upd F w w' base bA (dataR ns 2 s).1 := by
  have HC := hide (addData_any h 2 s)
  generalize dataR ns 2 s = r at *
  clear h
  go_enter Try.func37, Try.ntmps37
  go_wp2_with (go_at_call 92; refine (unhide HC).mono ?_; rintro e w' ⟨rfl, hu⟩)
  go_ret2
  exact ⟨rfl, hu⟩
end Go.Proofs.Ytmllhebmaldgfaa
