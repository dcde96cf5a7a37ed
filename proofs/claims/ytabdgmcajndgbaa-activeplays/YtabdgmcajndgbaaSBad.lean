/-
  New, and the calls that make texts and comments; what a call does to an arena, its inner places hidden. The calls that make texts and comments, and Node. Element.
-/
import Derived.Test.YtabdgmcajndgbaaSBab
import Derived.Deep.RegionWith
namespace Go.Proofs.Ytabdgmcajndgbaa
open Go.RowKit

/-- An arena at bA with these nodes, in the blocks F. -/
def ArS (w : World) (base bA : Nat) (ns : List NodeM) (F : Nat → Prop) : Prop := ∃ bS g cap, Ar w base bA bS g cap ns ∧ ∀ k, F k ↔ foot bA bS g ns k

/-- Behind a call the arena has the nodes ns; only its own blocks were written. -/
def Upd (F : Nat → Prop) (w w' : World) (base bA : Nat) (ns : List NodeM) : Prop := ∃ F', ArS w' base bA ns F' ∧ Mod F w w' ∧ ∀ k, F' k → F k ∨ w.heap.size ≤ k

theorem ArS.lt {w : World} {base bA : Nat} {ns : List NodeM} {F : Nat → Prop} (h : ArS w base bA ns F) {k : Nat} (hk : F k) : base ≤ k ∧ k < w.heap.size := by
  obtain ⟨bS, g, cap, h, hF⟩ := h
  exact h.foot_lt ((hF k).1 hk)
theorem ArS.mod {w w' : World} {base bA : Nat} {ns : List NodeM} {F G : Nat → Prop} (h : ArS w base bA ns F) (hm : Mod G w w') (hG : ∀ k, F k → ¬ G k) : ArS w' base bA ns F := by
  obtain ⟨bS, g, cap, h, hF⟩ := h
  exact ⟨bS, g, cap, h.mod hm (fun k hk => hG k ((hF k).2 hk)), hF⟩
theorem ArS.below {w w' : World} {base bA : Nat} {ns : List NodeM} {F : Nat → Prop} (h : ArS w base bA ns F) (hb : Below w.heap.size w w') : ArS w' base bA ns F := by
  obtain ⟨bS, g, cap, h, hF⟩ := h
  exact ⟨bS, g, cap, h.below hb, hF⟩
theorem ArS.upd {w w' : World} {base bA : Nat} {ns : List NodeM} {F : Nat → Prop} (h : ArS w base bA ns F) (hb : Below w.heap.size w w') : Upd F w w' base bA ns :=
  ⟨F, h.below hb, Mod.of_below hb, fun _ hk => .inl hk⟩
theorem ArS.base_le {w : World} {base bA : Nat} {ns : List NodeM} {F : Nat → Prop} (h : ArS w base bA ns F) : base ≤ w.heap.size := by
  obtain ⟨bS, g, cap, h, _⟩ := h
  have := h.foot_lt (.inl rfl); omega
/-- Ahead of the call that changes it new blocks were made. -/
theorem Upd.after {F : Nat → Prop} {w w1 w2 : World} {base bA : Nat} {ns : List NodeM} (hb : Below w.heap.size w w1) (h : Upd F w1 w2 base bA ns) : Upd F w w2 base bA ns := by
  obtain ⟨F', h1, h2, h3⟩ := h
  exact ⟨F', h1, (Mod.of_below hb).trans h2, fun k hk => (h3 k hk).imp id (fun h => Nat.le_trans hb.size h)⟩
theorem Upd.then {F : Nat → Prop} {w w1 w2 : World} {base bA : Nat} {ns : List NodeM} (h : Upd F w w1 base bA ns) (hb : Below w1.heap.size w1 w2) : Upd F w w2 base bA ns := by
  obtain ⟨F', h1, h2, h3⟩ := h
  exact ⟨F', h1.below hb, h2.trans (Mod.of_below hb), h3⟩

theorem ar_new (w : World) (base : Nat) (hbase : base ≤ w.heap.size) :
    Ar (((w.alloc (.cells (nodeRow [blankM 0]).toArray 89)).alloc (.cells #[.slice (some ⟨w.heap.size, 0, none⟩) 1 1] 93)).alloc (.cells #[.pointer (some ⟨w.heap.size + 1, 0, none⟩)] 95))
      base (w.heap.size + 2) (w.heap.size + 1) w.heap.size 1 [blankM 0] := by
  have hg : (w.alloc (.cells (nodeRow [blankM 0]).toArray 89)).ownsRow base 89 12 (.slice (some ⟨w.heap.size, 0, none⟩) 1 1) 1 (nodeRow [blankM 0]) := by
    have := World.ownsRow_lit (base := base) (e := 89) (size := 12) w (nodeRow [blankM 0]).toArray 1 hbase (by simp [maxLen]) (by rfl)
    simpa using this
  refine ⟨?_, ?_, (hg.alloc _).alloc _, by omega, by omega, by simp, by simp, ?_, ?_, ?_⟩
  · have := heap_alloc_new ((w.alloc (.cells (nodeRow [blankM 0]).toArray 89)).alloc (.cells #[.slice (some ⟨w.heap.size, 0, none⟩) 1 1] 93)) (.cells #[.pointer (some ⟨w.heap.size + 1, 0, none⟩)] 95)
    simpa using this
  · rw [Below.heap_alloc _ _ _ (by simp)]
    have := heap_alloc_new (w.alloc (.cells (nodeRow [blankM 0]).toArray 89)) (.cells #[.slice (some ⟨w.heap.size, 0, none⟩) 1 1] 93)
    simpa using this
  · intro i n hi
    match i, hi with
    | 0, hi => simp at hi; subst hi; exact World.ownsRow_nil _ _ _ _
  · intro i n hi
    match i, hi with
    | 0, hi => simp at hi; subst hi; simp [blankM]
  · intro i j n m hij hi hj
    have h1 := (List.getElem?_eq_some_iff.1 hi).1
    have h2 := (List.getElem?_eq_some_iff.1 hj).1
    simp at h1 h2; omega

set_option maxHeartbeats 400000 in
theorem new_any (w : World) (base : Nat) (hbase : base ≤ w.heap.size) :
    Calls Try.prog 15 #[] w fun e w' => ∃ F, e = .returned (.pointer (some ⟨w.heap.size + 3, 0, none⟩)) ∧ ArS w' base (w.heap.size + 3) [blankM 0] F ∧ Below w.heap.size w w' ∧ ∀ k, F k → w.heap.size ≤ k := by
  go_enter Try.func15, Try.ntmps15
  go_wp2_with (go_at_call 39; refine (blank_any _).mono ?_; rintro e w' ⟨rfl, rfl⟩)
  go_ret
  have R := ar_new (w.alloc (.cells (nodeRow [blankM 0]).toArray 89)) base (by simp; omega)
  rw [World.size_alloc] at R
  refine ⟨_, rfl, ⟨_, _, _, R, fun k => Iff.rfl⟩, ?_, ?_⟩
  · exact (((((Below.refl _ w).alloc (Nat.le_refl _) _).alloc (by simp) _).alloc (by simp; omega) _).alloc (by simp; omega) _)
  · intro k hk
    rcases hk with rfl | rfl | rfl | ⟨n, hn, hk⟩
    · omega
    · omega
    · omega
    · simp at hn; subst hn; simp [blankM, Value.ownBlock] at hk
end Go.Proofs.Ytabdgmcajndgbaa

namespace Go.Proofs.Ytabdgmcajndgbaa
open Go.RowKit

theorem upd_add {w0 w w' : World} {base bA bS g g' cap' : Nat} {ns news : List NodeM} {F : Nat → Prop} (hF : ∀ k, F k ↔ foot bA bS g ns k) (hb : Below w0.heap.size w0 w)
    (h : Ar w' base bA bS g' cap' (ns ++ news)) (hm : Mod (fun k => k = bS ∨ k = g) w w') (hg : g' = g ∨ g' = w.heap.size)
    (hfresh : ∀ n ∈ news, ∀ k, n.av.ownBlock = some k → w0.heap.size ≤ k) : Upd F w0 w' base bA (ns ++ news) := by
  refine ⟨_, ⟨bS, g', cap', h, fun k => Iff.rfl⟩, ?_, ?_⟩
  · refine (Mod.of_below hb).trans (hm.mono (fun k _ hk => (hF k).2 ?_))
    rcases hk with rfl | rfl
    · exact .inr (.inl rfl)
    · exact .inr (.inr (.inl rfl))
  · intro k hk
    have hs := hb.size
    rcases hk with rfl | rfl | rfl | ⟨n, hn, hk⟩
    · exact .inl ((hF _).2 (.inl rfl))
    · exact .inl ((hF _).2 (.inr (.inl rfl)))
    · rcases hg with rfl | rfl
      · exact .inl ((hF _).2 (.inr (.inr (.inl rfl))))
      · exact .inr hs
    · rcases List.mem_append.1 hn with hn | hn
      · exact .inl ((hF _).2 (.inr (.inr (.inr ⟨n, hn, hk⟩))))
      · exact .inr (hfresh n hn k hk)

/-- Nodes without attributes may be added always. -/
theorem news_bare {w : World} {base bA bS g cap : Nat} {ns : List NodeM} (h : Ar w base bA bS g cap ns) (news : List NodeM) (hn : ∀ n ∈ news, n.av = .slice none 0 0 ∧ n.attrs = []) : News w base ns news := by
  refine ⟨fun i n hi => ?_, fun i n hi => ?_, fun i j n m hij hi hj => ?_⟩
  · have := hn n (List.mem_of_getElem? hi); rw [this.1, this.2]; exact World.ownsRow_nil _ _ _ _
  · have := hn n (List.mem_of_getElem? hi); rw [this.2]; simp
  · by_cases hl : i < ns.length
    · by_cases hl2 : j < ns.length
      · rw [List.getElem?_append_left hl] at hi; rw [List.getElem?_append_left hl2] at hj; exact h.apart i j n m hij hi hj
      · rw [List.getElem?_append_right (by omega)] at hj
        have := hn m (List.mem_of_getElem? hj)
        rw [this.1]
        cases hv : n.av.ownBlock <;> simp [Value.ownBlock]
    · rw [List.getElem?_append_right (by omega)] at hi
      have := hn n (List.mem_of_getElem? hi)
      exact .inl (by rw [this.1]; rfl)

theorem last_block (w : World) (o : Obj) (k : Nat) (hk : k = w.heap.size) : (w.alloc o).heap[k]? = some o := by subst hk; exact heap_alloc_new w o

theorem add_fits1 {w : World} {base bA bS g cap : Nat} {ns : List NodeM} (h : Ar w base bA bS g cap ns) (n : NodeM) (hn : News w base ns [n]) (hf : ns.length + 1 ≤ 32768)
    (b c : Nat) (hb : w.heap[b]? = some (.cells n.cells.toArray 89 (0, 0))) :
    Calls Try.prog 44 #[.pointer (some ⟨bA, 0, none⟩), .slice (some ⟨b, 0, none⟩) 1 c] w fun e w' =>
      e = .returned (.tuple #[.int .i64 ns.length, .int .i64 0]) ∧ ∃ g' cap', Ar w' base bA bS g' cap' (ns ++ [n]) ∧ Mod (fun k => k = bS ∨ k = g) w w' ∧ (g' = g ∨ g' = w.heap.size) :=
  add_fits h [n] hn (by simp) (by simpa using hf) b c (by simpa [nodeRow] using hb)

theorem add_fits2 {w : World} {base bA bS g cap : Nat} {ns : List NodeM} (h : Ar w base bA bS g cap ns) (n m : NodeM) (hn : News w base ns [n, m]) (hf : ns.length + 2 ≤ 32768)
    (b c : Nat) (hb : w.heap[b]? = some (.cells (n.cells ++ m.cells).toArray 89 (0, 0))) :
    Calls Try.prog 44 #[.pointer (some ⟨bA, 0, none⟩), .slice (some ⟨b, 0, none⟩) 2 c] w fun e w' =>
      e = .returned (.tuple #[.int .i64 ns.length, .int .i64 0]) ∧ ∃ g' cap', Ar w' base bA bS g' cap' (ns ++ [n, m]) ∧ Mod (fun k => k = bS ∨ k = g) w w' ∧ (g' = g ∨ g' = w.heap.size) :=
  add_fits h [n, m] hn (by simp) (by simpa using hf) b c (by simpa [nodeRow] using hb)

def dataN (kind : Int) (s : ByteArray) : NodeM := { blankM kind with data := s }

theorem one_cell_s (w : World) (t : TypeId) (x : ByteArray) : ∀ j s, [x][j]? = some s → (w.alloc (.cells #[.string x] t)).cell? ⟨w.heap.size, j, none⟩ = some (.string s) := by
  intro j s hj
  match j, hj with
  | 0, hj => simp at hj; subst hj; simp

/-- What a call that makes a node of a text gives: the nodes, the number, the error. -/
def dataR (ns : List NodeM) (kind : Int) (s : ByteArray) : List NodeM × Int × Int :=
  if longS s then (ns, 0, 2) else if ns.length + 1 ≤ 32768 then (ns ++ [dataN kind s], ns.length, 0) else (ns, 0, 9)

end Go.Proofs.Ytabdgmcajndgbaa

namespace Go.Proofs.Ytabdgmcajndgbaa
open Go.RowKit

def elemN (space : Int) (name : ByteArray) (l : List AttrM) (av : Value) : NodeM := { blankM 1 with space := space, name := name, av := av, attrs := l }
def tmpl : ByteArray := ⟨#[116, 101, 109, 112, 108, 97, 116, 101]⟩

theorem element_space {w : World} {base bA : Nat} {ns : List NodeM} {F : Nat → Prop} (h : ArS w base bA ns F) (space : Int) (name : ByteArray) (v : Value) (h0 : space < 0 ∨ 2 < space) :
    Calls Try.prog 17 #[.pointer (some ⟨bA, 0, none⟩), .int .i64 space, .string name, v] w fun e w' => e = .returned (.tuple #[.int .i64 0, .int .i64 1]) ∧ w = w' := by
  obtain ⟨bS, g, cap, h, hF⟩ := h
  have HM := hide (made_yes h)
  have h1 : (space != 0) = true := by rw [bne_iff_ne]; omega
  have h2 : (space != 1) = true := by rw [bne_iff_ne]; omega
  have h3 : (space != 2) = true := by rw [bne_iff_ne]; omega
  clear h hF h0
  go_enter Try.func17, Try.ntmps17
  go_wp2_with (go_at_call 40; refine (unhide HM).mono ?_; rintro e w' ⟨rfl, rfl⟩)
  go_ret2
  exact ⟨rfl, rfl⟩

/-- A name or an attribute too long, or too many. -/
def longE (name : ByteArray) (l : List AttrM) : Bool := longS name || decide (1024 < l.length) || l.any AttrM.long

set_option maxHeartbeats 1000000 in
theorem element_long {w : World} {base bA : Nat} {ns : List NodeM} {F : Nat → Prop} (h : ArS w base bA ns F) (space : Int) (name : ByteArray) (a : Option Addr) (cap : Nat) (l : List AttrM) (hl : AttrsIn w a l) (hn : l.length ≤ maxLen)
    (hs : 0 ≤ space ∧ space ≤ 2) (hlong : longE name l = true) :
    Calls Try.prog 17 #[.pointer (some ⟨bA, 0, none⟩), .int .i64 space, .string name, .slice a l.length cap] w fun e w' => e = .returned (.tuple #[.int .i64 0, .int .i64 2]) ∧ Below w.heap.size w w' := by
  obtain ⟨bS, g, cp, h, hF⟩ := h
  have HM := hide (made_yes h)
  have HL := hide (anyLong_any (w.alloc (.cells #[.string name] 9)) w.heap.size 1 [name] (one_cell_s w 9 name) (by simp))
  have hl1 := hl.below ((Below.refl _ w).alloc (Nat.le_refl _) (.cells #[.string name] 9))
  have HA := hide (anyLongAttr_any (w.alloc (.cells #[.string name] 9)) a cap l hl1 hn)
  have hb1 := (Below.refl _ w).alloc (Nat.le_refl _) (.cells #[.string name] 9)
  have HB1 := hide hb1
  have e1 : [name].any longS = longS name := by simp
  rw [e1] at HL
  clear h hF hl hl1 hb1 e1
  unfold maxLen at hn
  have hsp : space = 0 ∨ space = 1 ∨ space = 2 := by omega
  clear hs
  cases hnm : longS name with
  | true =>
    rw [hnm] at HL
    clear hnm hlong HA
    rcases hsp with rfl | rfl | rfl
    all_goals
      go_enter Try.func17, Try.ntmps17
      go_wp2_with (first
        | (go_at_call 40; refine (unhide HM).mono ?_; rintro e w' ⟨rfl, rfl⟩)
        | (go_at_call 41; refine (unhide HL).mono ?_; rintro e w' ⟨rfl, rfl⟩))
      go_ret2
      exact ⟨rfl, unhide HB1⟩
  | false =>
    rw [hnm] at HL
    by_cases hc : 1024 < l.length
    · clear hnm hlong HA
      have hc' : (1024 : Int) < (l.length : Int) := by omega
      rcases hsp with rfl | rfl | rfl
      all_goals
        go_enter Try.func17, Try.ntmps17
        go_wp2_with (first
          | (go_at_call 40; refine (unhide HM).mono ?_; rintro e w' ⟨rfl, rfl⟩)
          | (go_at_call 41; refine (unhide HL).mono ?_; rintro e w' ⟨rfl, rfl⟩))
        go_ret2
        exact ⟨rfl, unhide HB1⟩
    · have hla : l.any AttrM.long = true := by simpa [longE, hnm, hc] using hlong
      rw [hla] at HA
      clear hnm hlong hla
      have hc' : ¬ (1024 : Int) < (l.length : Int) := by omega
      rcases hsp with rfl | rfl | rfl
      all_goals
        go_enter Try.func17, Try.ntmps17
        go_wp2_with (first
          | (go_at_call 40; refine (unhide HM).mono ?_; rintro e w' ⟨rfl, rfl⟩)
          | (go_at_call 41; refine (unhide HL).mono ?_; rintro e w' ⟨rfl, rfl⟩)
          | (go_at_call 42; refine (unhide HA).mono ?_; rintro e w' ⟨rfl, hb⟩))
        go_ret2
        exact ⟨rfl, (unhide HB1).trans (hb.mono (by simp))⟩
end Go.Proofs.Ytabdgmcajndgbaa
