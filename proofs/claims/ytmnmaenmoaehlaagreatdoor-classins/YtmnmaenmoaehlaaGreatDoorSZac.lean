/-
   
-/
import Derived.Test.YtmnmaenmoaehlaaGreatDoorSZab
import Derived.Deep.RegionWith
namespace Go.Proofs.YtmnmaenmoaehlaaGreatDoor
open Go.RowKit

theorem upd_add {w0 w w' : World} {base bA bS g g' cap' : Nat} {ns news : List NodeM} {F : Nat → Prop} (hF : ∀ k, F k ↔ foot bA bS g ns k) (hb : Below w0.heap.size w0 w)
    (h : Ar w' base bA bS g' cap' (ns ++ news)) (hm : Mod (fun k => k = bS ∨ k = g) w w') (hg : g' = g ∨ g' = w.heap.size)
    (hfresh : ∀ n ∈ news, ∀ k, n.av.ownBlock = some k → w0.heap.size ≤ k) : Upd F w0 w' base bA (ns ++ news) := by
  refine ⟨_, ⟨bS, g', cap', h, fun k => Iff.rfl⟩, ?_, ?_⟩
  · refine (Mod.of_below hb).trans (hm.mono (fun k _ hk => (hF k).2 ?_))
    rcases hk with rfl | rfl
    · exact .inr (.inl rfl)
    · exact .inr (.inr (.inl rfl))
  · intro k hk
    have hs := hb.size
    rcases hk with rfl | rfl | rfl | ⟨n, hn, hk⟩
    · exact .inl ((hF _).2 (.inl rfl))
    · exact .inl ((hF _).2 (.inr (.inl rfl)))
    · rcases hg with rfl | rfl
      · exact .inl ((hF _).2 (.inr (.inr (.inl rfl))))
      · exact .inr hs
    · rcases List.mem_append.1 hn with hn | hn
      · exact .inl ((hF _).2 (.inr (.inr (.inr ⟨n, hn, hk⟩))))
      · exact .inr (hfresh n hn k hk)

/-- Nodes without attributes may be added always. -/
theorem news_bare {w : World} {base bA bS g cap : Nat} {ns : List NodeM} (h : Ar w base bA bS g cap ns) (news : List NodeM) (hn : ∀ n ∈ news, n.av = .slice none 0 0 ∧ n.attrs = []) : News w base ns news := by
  refine ⟨fun i n hi => ?_, fun i n hi => ?_, fun i j n m hij hi hj => ?_⟩
  · have := hn n (List.mem_of_getElem? hi); rw [this.1, this.2]; exact World.ownsRow_nil _ _ _ _
  · have := hn n (List.mem_of_getElem? hi); rw [this.2]; simp
  · by_cases hl : i < ns.length
    · by_cases hl2 : j < ns.length
      · rw [List.getElem?_append_left hl] at hi; rw [List.getElem?_append_left hl2] at hj; exact h.apart i j n m hij hi hj
      · rw [List.getElem?_append_right (by omega)] at hj
        have := hn m (List.mem_of_getElem? hj)
        rw [this.1]
        cases hv : n.av.ownBlock <;> simp [Value.ownBlock]
    · rw [List.getElem?_append_right (by omega)] at hi
      have := hn n (List.mem_of_getElem? hi)
      exact .inl (by rw [this.1]; rfl)

theorem last_block (w : World) (o : Obj) (k : Nat) (hk : k = w.heap.size) : (w.alloc o).heap[k]? = some o := by subst hk; exact heap_alloc_new w o

theorem add_fits1 {w : World} {base bA bS g cap : Nat} {ns : List NodeM} (h : Ar w base bA bS g cap ns) (n : NodeM) (hn : News w base ns [n]) (hf : ns.length + 1 ≤ 32768)
    (b c : Nat) (hb : w.heap[b]? = some (.cells n.cells.toArray 51 (0, 0))) :
    Calls Tryz.prog 36 #[.pointer (some ⟨bA, 0, none⟩), .slice (some ⟨b, 0, none⟩) 1 c] w fun e w' =>
      e = .returned (.tuple #[.int .i64 ns.length, .int .i64 0]) ∧ ∃ g' cap', Ar w' base bA bS g' cap' (ns ++ [n]) ∧ Mod (fun k => k = bS ∨ k = g) w w' ∧ (g' = g ∨ g' = w.heap.size) :=
  add_fits h [n] hn (by simp) (by simpa using hf) b c (by simpa [nodeRow] using hb)

theorem add_fits2 {w : World} {base bA bS g cap : Nat} {ns : List NodeM} (h : Ar w base bA bS g cap ns) (n m : NodeM) (hn : News w base ns [n, m]) (hf : ns.length + 2 ≤ 32768)
    (b c : Nat) (hb : w.heap[b]? = some (.cells (n.cells ++ m.cells).toArray 51 (0, 0))) :
    Calls Tryz.prog 36 #[.pointer (some ⟨bA, 0, none⟩), .slice (some ⟨b, 0, none⟩) 2 c] w fun e w' =>
      e = .returned (.tuple #[.int .i64 ns.length, .int .i64 0]) ∧ ∃ g' cap', Ar w' base bA bS g' cap' (ns ++ [n, m]) ∧ Mod (fun k => k = bS ∨ k = g) w w' ∧ (g' = g ∨ g' = w.heap.size) :=
  add_fits h [n, m] hn (by simp) (by simpa using hf) b c (by simpa [nodeRow] using hb)

def dataN (kind : Int) (s : ByteArray) : NodeM := { blankM kind with data := s }

theorem one_cell_s (w : World) (t : TypeId) (x : ByteArray) : ∀ j s, [x][j]? = some s → (w.alloc (.cells #[.string x] t)).cell? ⟨w.heap.size, j, none⟩ = some (.string s) := by
  intro j s hj
  match j, hj with
  | 0, hj => simp at hj; subst hj; simp

set_option maxHeartbeats 1000000 in
theorem addData_fits {w : World} {base bA : Nat} {ns : List NodeM} {F : Nat → Prop} (h : ArS w base bA ns F) (kind : Int) (s : ByteArray) (hs : longS s = false) (hf : ns.length + 1 ≤ 32768) :
    Calls Tryz.prog 45 #[.pointer (some ⟨bA, 0, none⟩), .int .i64 kind, .string s] w fun e w' => e = .returned (.tuple #[.int .i64 ns.length, .int .i64 0]) ∧ Upd F w w' base bA (ns ++ [dataN kind s]) := by
  obtain ⟨bS, g, cap, h, hF⟩ := h
  have HF := hide hF
  have HM := hide (made_yes h)
  have HL := hide (anyLong_any (w.alloc (.cells #[.string s] 9)) w.heap.size 1 [s] (one_cell_s w 9 s) (by simp))
  have HH := hide h
  have hlong : [s].any longS = false := by simp [hs]
  rw [hlong] at HL
  clear h hF hlong
  go_enter Tryz.func45, Tryz.ntmps45
  go_wp2_with (first
    | (go_at_call 32; refine (unhide HM).mono ?_; rintro e w' ⟨rfl, rfl⟩)
    | (go_at_call 33; refine (unhide HL).mono ?_; rintro e w' ⟨rfl, rfl⟩)
    | (go_at_call 31; refine (blank_any _).mono ?_; rintro e w' ⟨rfl, rfl⟩))
  refine (add_fits1 (n := dataN kind s) ((((unhide HH).alloc _).alloc _).alloc _ |>.alloc _) (news_bare ((((unhide HH).alloc _).alloc _).alloc _ |>.alloc _) _ (by simp [dataN, blankM])) hf _ _ (last_block _ _ _ (by simp))).mono ?_
  rintro e w' ⟨rfl, g', cap', har, hmod, hgg⟩
  go_wp2
  go_ret2
  exact ⟨rfl, upd_add (unhide HF) (((((Below.refl _ w).alloc (Nat.le_refl _) _).alloc (by simp) _).alloc (by simp; omega) _).alloc (by simp; omega) _) har hmod hgg (by simp [dataN, blankM, Value.ownBlock])⟩

theorem addData_long {w : World} {base bA : Nat} {ns : List NodeM} {F : Nat → Prop} (h : ArS w base bA ns F) (kind : Int) (s : ByteArray) (hs : longS s = true) :
    Calls Tryz.prog 45 #[.pointer (some ⟨bA, 0, none⟩), .int .i64 kind, .string s] w fun e w' => e = .returned (.tuple #[.int .i64 0, .int .i64 2]) ∧ Below w.heap.size w w' := by
  obtain ⟨bS, g, cap, h, hF⟩ := h
  have HM := hide (made_yes h)
  have HL := hide (anyLong_any (w.alloc (.cells #[.string s] 9)) w.heap.size 1 [s] (one_cell_s w 9 s) (by simp))
  have hlong : [s].any longS = true := by simp [hs]
  rw [hlong] at HL
  clear h hF hlong
  go_enter Tryz.func45, Tryz.ntmps45
  go_wp2_with (first
    | (go_at_call 32; refine (unhide HM).mono ?_; rintro e w' ⟨rfl, rfl⟩)
    | (go_at_call 33; refine (unhide HL).mono ?_; rintro e w' ⟨rfl, rfl⟩))
  go_ret2
  exact ⟨rfl, (Below.refl _ w).alloc (Nat.le_refl _) _⟩

set_option maxHeartbeats 1000000 in
theorem addData_full {w : World} {base bA : Nat} {ns : List NodeM} {F : Nat → Prop} (h : ArS w base bA ns F) (kind : Int) (s : ByteArray) (hs : longS s = false) (hf : ¬ ns.length + 1 ≤ 32768) :
    Calls Tryz.prog 45 #[.pointer (some ⟨bA, 0, none⟩), .int .i64 kind, .string s] w fun e w' => e = .returned (.tuple #[.int .i64 0, .int .i64 9]) ∧ Below w.heap.size w w' := by
  obtain ⟨bS, g, cap, h, hF⟩ := h
  have HM := hide (made_yes h)
  have HL := hide (anyLong_any (w.alloc (.cells #[.string s] 9)) w.heap.size 1 [s] (one_cell_s w 9 s) (by simp))
  have HH := hide h
  have hlong : [s].any longS = false := by simp [hs]
  rw [hlong] at HL
  clear h hF hlong
  go_enter Tryz.func45, Tryz.ntmps45
  go_wp2_with (first
    | (go_at_call 32; refine (unhide HM).mono ?_; rintro e w' ⟨rfl, rfl⟩)
    | (go_at_call 33; refine (unhide HL).mono ?_; rintro e w' ⟨rfl, rfl⟩)
    | (go_at_call 31; refine (blank_any _).mono ?_; rintro e w' ⟨rfl, rfl⟩))
  refine (add_full ((((unhide HH).alloc _).alloc _).alloc _ |>.alloc _) _ _ 1 (by omega) hf).mono ?_
  rintro e w' ⟨rfl, rfl⟩
  go_wp2
  go_ret2
  exact ⟨rfl, (((((Below.refl _ w).alloc (Nat.le_refl _) _).alloc (by simp) _).alloc (by simp; omega) _).alloc (by simp; omega) _)⟩

/-- What a call that makes a node of a text gives: the nodes, the number, the error. -/
def dataR (ns : List NodeM) (kind : Int) (s : ByteArray) : List NodeM × Int × Int :=
  if longS s then (ns, 0, 2) else if ns.length + 1 ≤ 32768 then (ns ++ [dataN kind s], ns.length, 0) else (ns, 0, 9)

theorem addData_any {w : World} {base bA : Nat} {ns : List NodeM} {F : Nat → Prop} (h : ArS w base bA ns F) (kind : Int) (s : ByteArray) :
    Calls Tryz.prog 45 #[.pointer (some ⟨bA, 0, none⟩), .int .i64 kind, .string s] w fun e w' =>
      e = .returned (.tuple #[.int .i64 (dataR ns kind s).2.1, .int .i64 (dataR ns kind s).2.2]) ∧ Upd F w w' base bA (dataR ns kind s).1 := by
  cases hs : longS s with
  | true =>
    have e : dataR ns kind s = (ns, 0, 2) := by simp [dataR, hs]
    rw [e]
    exact (addData_long h kind s hs).mono fun e w' ⟨h1, h2⟩ => ⟨h1, h.upd h2⟩
  | false =>
    by_cases hf : ns.length + 1 ≤ 32768
    · have e : dataR ns kind s = (ns ++ [dataN kind s], (ns.length : Int), 0) := by simp [dataR, hs, hf]
      rw [e]
      exact addData_fits h kind s hs hf
    · have e : dataR ns kind s = (ns, 0, 9) := by simp [dataR, hs, hf]
      rw [e]
      exact (addData_full h kind s hs hf).mono fun e w' ⟨h1, h2⟩ => ⟨h1, h.upd h2⟩

theorem text_any {w : World} {base bA : Nat} {ns : List NodeM} {F : Nat → Prop} (h : ArS w base bA ns F) (s : ByteArray) :
    Calls Tryz.prog 16 #[.pointer (some ⟨bA, 0, none⟩), .string s] w fun e w' =>
      e = .returned (.tuple #[.int .i64 (dataR ns 2 s).2.1, .int .i64 (dataR ns 2 s).2.2]) ∧ Upd F w w' base bA (dataR ns 2 s).1 := by
  have HC := hide (addData_any h 2 s)
  generalize dataR ns 2 s = r at *
  clear h
  go_enter Tryz.func16, Tryz.ntmps16
  go_wp2_with (go_at_call 45; refine (unhide HC).mono ?_; rintro e w' ⟨rfl, hu⟩)
  go_ret2
  exact ⟨rfl, hu⟩
end Go.Proofs.YtmnmaenmoaehlaaGreatDoor

namespace Go.Proofs.YtmnmaenmoaehlaaGreatDoor
open Go.RowKit

def elemN (space : Int) (name : ByteArray) (l : List AttrM) (av : Value) : NodeM := { blankM 1 with space := space, name := name, av := av, attrs := l }
def tmpl : ByteArray := ⟨#[116, 101, 109, 112, 108, 97, 116, 101]⟩

theorem element_space {w : World} {base bA : Nat} {ns : List NodeM} {F : Nat → Prop} (h : ArS w base bA ns F) (space : Int) (name : ByteArray) (v : Value) (h0 : space < 0 ∨ 2 < space) :
    Calls Tryz.prog 12 #[.pointer (some ⟨bA, 0, none⟩), .int .i64 space, .string name, v] w fun e w' => e = .returned (.tuple #[.int .i64 0, .int .i64 1]) ∧ w = w' := by
  obtain ⟨bS, g, cap, h, hF⟩ := h
  have HM := hide (made_yes h)
  have h1 : (space != 0) = true := by rw [bne_iff_ne]; omega
  have h2 : (space != 1) = true := by rw [bne_iff_ne]; omega
  have h3 : (space != 2) = true := by rw [bne_iff_ne]; omega
  clear h hF h0
  go_enter Tryz.func12, Tryz.ntmps12
  go_wp2_with (go_at_call 32; refine (unhide HM).mono ?_; rintro e w' ⟨rfl, rfl⟩)
  go_ret2
  exact ⟨rfl, rfl⟩

/-- A name or an attribute too long, or too many. -/
def longE (name : ByteArray) (l : List AttrM) : Bool := longS name || decide (1024 < l.length) || l.any AttrM.long

set_option maxHeartbeats 1000000 in
theorem element_long {w : World} {base bA : Nat} {ns : List NodeM} {F : Nat → Prop} (h : ArS w base bA ns F) (space : Int) (name : ByteArray) (a : Option Addr) (cap : Nat) (l : List AttrM) (hl : AttrsIn w a l) (hn : l.length ≤ maxLen)
    (hs : 0 ≤ space ∧ space ≤ 2) (hlong : longE name l = true) :
    Calls Tryz.prog 12 #[.pointer (some ⟨bA, 0, none⟩), .int .i64 space, .string name, .slice a l.length cap] w fun e w' => e = .returned (.tuple #[.int .i64 0, .int .i64 2]) ∧ Below w.heap.size w w' := by
  obtain ⟨bS, g, cp, h, hF⟩ := h
  have HM := hide (made_yes h)
  have HL := hide (anyLong_any (w.alloc (.cells #[.string name] 9)) w.heap.size 1 [name] (one_cell_s w 9 name) (by simp))
  have hl1 := hl.below ((Below.refl _ w).alloc (Nat.le_refl _) (.cells #[.string name] 9))
  have HA := hide (anyLongAttr_any (w.alloc (.cells #[.string name] 9)) a cap l hl1 hn)
  have hb1 := (Below.refl _ w).alloc (Nat.le_refl _) (.cells #[.string name] 9)
  have HB1 := hide hb1
  have e1 : [name].any longS = longS name := by simp
  rw [e1] at HL
  clear h hF hl hl1 hb1 e1
  unfold maxLen at hn
  have hsp : space = 0 ∨ space = 1 ∨ space = 2 := by omega
  clear hs
  cases hnm : longS name with
  | true =>
    rw [hnm] at HL
    clear hnm hlong HA
    rcases hsp with rfl | rfl | rfl
    all_goals
      go_enter Tryz.func12, Tryz.ntmps12
      go_wp2_with (first
        | (go_at_call 32; refine (unhide HM).mono ?_; rintro e w' ⟨rfl, rfl⟩)
        | (go_at_call 33; refine (unhide HL).mono ?_; rintro e w' ⟨rfl, rfl⟩))
      go_ret2
      exact ⟨rfl, unhide HB1⟩
  | false =>
    rw [hnm] at HL
    by_cases hc : 1024 < l.length
    · clear hnm hlong HA
      have hc' : (1024 : Int) < (l.length : Int) := by omega
      rcases hsp with rfl | rfl | rfl
      all_goals
        go_enter Tryz.func12, Tryz.ntmps12
        go_wp2_with (first
          | (go_at_call 32; refine (unhide HM).mono ?_; rintro e w' ⟨rfl, rfl⟩)
          | (go_at_call 33; refine (unhide HL).mono ?_; rintro e w' ⟨rfl, rfl⟩))
        go_ret2
        exact ⟨rfl, unhide HB1⟩
    · have hla : l.any AttrM.long = true := by simpa [longE, hnm, hc] using hlong
      rw [hla] at HA
      clear hnm hlong hla
      have hc' : ¬ (1024 : Int) < (l.length : Int) := by omega
      rcases hsp with rfl | rfl | rfl
      all_goals
        go_enter Tryz.func12, Tryz.ntmps12
        go_wp2_with (first
          | (go_at_call 32; refine (unhide HM).mono ?_; rintro e w' ⟨rfl, rfl⟩)
          | (go_at_call 33; refine (unhide HL).mono ?_; rintro e w' ⟨rfl, rfl⟩)
          | (go_at_call 34; refine (unhide HA).mono ?_; rintro e w' ⟨rfl, hb⟩))
        go_ret2
        exact ⟨rfl, (unhide HB1).trans (hb.mono (by simp))⟩
end Go.Proofs.YtmnmaenmoaehlaaGreatDoor

namespace Go.Proofs.YtmnmaenmoaehlaaGreatDoor
open Go.RowKit

theorem bcell {W w1 : World} (hb : Below W.heap.size W w1) : (∀ b o, b < W.heap.size → w1.cell? ⟨b, o, none⟩ = W.cell? ⟨b, o, none⟩) ∧ (∀ b o, b < W.heap.size → w1.frozen? ⟨b, o, none⟩ = W.frozen? ⟨b, o, none⟩) :=
  ⟨fun b o h => hb.cell (p := ⟨b, o, none⟩) h, fun b o h => hb.frozen (p := ⟨b, o, none⟩) h⟩

theorem elem_ready {w w1 w2 w4 w5 : World} {base bA bS g cap : Nat} {ns : List NodeM} (h : Ar w base bA bS g cap ns) (hb1 : Below w.heap.size w w1) (hb2 : Below w1.heap.size w1 w2) (o1 o2 : Obj)
    (hb4 : Below ((w2.alloc o1).alloc o2).heap.size ((w2.alloc o1).alloc o2) w4) (hm : Mod (fun k => k = w2.heap.size + 1) w4 w5) (l : List AttrM) (hl : l.length ≤ 1024) (v : Value)
    (hov : w4.ownsRow base 93 4 v l.length (attrRow l)) (hfr : ∀ k, v.ownBlock = some k → ((w2.alloc o1).alloc o2).heap.size ≤ k)
    (n : NodeM) (hav : n.av = v) (hat : n.attrs = l) (rest : List NodeM) (hrest : ∀ m ∈ rest, m.av = .slice none 0 0 ∧ m.attrs = []) :
    Below w.heap.size w w5 ∧ Ar w5 base bA bS g cap ns ∧ News w5 base ns (n :: rest) ∧ (∀ m ∈ n :: rest, ∀ k, m.av.ownBlock = some k → w.heap.size ≤ k) := by
  subst hav
  subst hat
  have s1 := hb1.size
  have s2 := hb2.size
  have hfr' : ∀ k, n.av.ownBlock = some k → w2.heap.size + 2 ≤ k := fun k hk => by have := hfr k hk; simpa using this
  have b : Below w.heap.size w w5 := by
    have b2 : Below w.heap.size w w2 := hb1.trans (hb2.mono s1)
    have b3 : Below w.heap.size w ((w2.alloc o1).alloc o2) := (b2.alloc b2.size _).alloc (by have := b2.size; simp; omega) _
    have b4 : Below w.heap.size w w4 := b3.trans (hb4.mono b3.size)
    exact b4.trans (hm.below b4.size (fun k hk => by have := b2.size; omega))
  have own5 : w5.ownsRow base 93 4 n.av n.attrs.length (attrRow n.attrs) := ownsRow_kept hov (fun k hk => by
    obtain ⟨cur, hc⟩ := ownsRow_block hov hk
    exact hm.block k (lt_of_block hc) (fun e => by have := hfr' k hk; omega))
  refine ⟨b, h.below b, ⟨?_, ?_, ?_⟩, ?_⟩
  · intro i m hi
    cases i with
    | zero => simp at hi; subst hi; exact own5
    | succ i => have := hrest m (List.mem_of_getElem? (by simpa using hi)); rw [this.1, this.2]; exact World.ownsRow_nil _ _ _ _
  · intro i m hi
    cases i with
    | zero => simp at hi; subst hi; exact hl
    | succ i => have := hrest m (List.mem_of_getElem? (by simpa using hi)); rw [this.2]; simp
  · have cls : ∀ (i : Nat) m, (ns ++ n :: rest)[i]? = some m → (i < ns.length ∧ ns[i]? = some m) ∨ (i = ns.length ∧ m = n) ∨ m.av.ownBlock = none := by
      intro i m hi
      by_cases hlt : i < ns.length
      · rw [List.getElem?_append_left hlt] at hi; exact .inl ⟨hlt, hi⟩
      · rw [List.getElem?_append_right (by omega)] at hi
        by_cases he : i = ns.length
        · subst he; simp at hi; exact .inr (.inl ⟨rfl, hi.symm⟩)
        · obtain ⟨d, hd⟩ : ∃ d, i - ns.length = d + 1 := ⟨i - ns.length - 1, by omega⟩
          rw [hd] at hi
          have := hrest m (List.mem_of_getElem? (by simpa using hi))
          exact .inr (.inr (by rw [this.1]; rfl))
    have old : ∀ (i : Nat) m, ns[i]? = some m → ∀ k, m.av.ownBlock = some k → k < w.heap.size := fun i m hi k hk => (h.foot_lt (.inr (.inr (.inr ⟨m, List.mem_of_getElem? hi, hk⟩)))).2
    intro i j x y hij hi hj
    rcases cls i x hi with ⟨_, hi'⟩ | ⟨ei, rfl⟩ | hx
    · rcases cls j y hj with ⟨_, hj'⟩ | ⟨ej, rfl⟩ | hy
      · exact h.apart i j x y hij hi' hj'
      · cases hv : x.av.ownBlock with
        | none => exact .inl rfl
        | some k =>
          refine .inr (fun e => ?_)
          have h1 := old i x hi' k hv
          have h2 := hfr' k e.symm
          omega
      · rw [hy]; cases hv : x.av.ownBlock <;> simp
    · rcases cls j y hj with ⟨_, hj'⟩ | ⟨ej, rfl⟩ | hy
      · cases hv : x.av.ownBlock with
        | none => exact .inl rfl
        | some k =>
          refine .inr (fun e => ?_)
          have h1 := old j y hj' k e.symm
          have h2 := hfr' k hv
          omega
      · omega
      · rw [hy]; cases hv : x.av.ownBlock <;> simp
    · exact .inl hx
  · intro m hm k hk
    rcases List.mem_cons.1 hm with rfl | hm
    · have := hfr' k hk; omega
    · rw [(hrest m hm).1] at hk; simp [Value.ownBlock] at hk

theorem mod3 (w : World) (b : Nat) (v1 v2 v3 : Value) (o : Obj) : Mod (fun k => k = b) w ((((w.setCell ⟨b, 1, none⟩ v1).setCell ⟨b, 2, none⟩ v2).setCell ⟨b, 3, none⟩ v3).alloc o) :=
  (((Mod.setCell (F := fun k => k = b) w ⟨b, 1, none⟩ v1 rfl).trans (Mod.setCell (F := fun k => k = b) _ ⟨b, 2, none⟩ v2 rfl)).trans (Mod.setCell (F := fun k => k = b) _ ⟨b, 3, none⟩ v3 rfl)).trans (Mod.alloc _ o)

/-- Is it the name template? -/
def isT (name : ByteArray) : Bool := name.toList == [116, 101, 109, 112, 108, 97, 116, 101]

set_option maxHeartbeats 2000000 in
theorem element_plain {w : World} {base bA : Nat} {ns : List NodeM} {F : Nat → Prop} (h : ArS w base bA ns F) (space : Int) (name : ByteArray) (a : Option Addr) (cap : Nat) (l : List AttrM) (hl : AttrsIn w a l)
    (hs : space = 1 ∨ space = 2 ∨ (space = 0 ∧ isT name = false)) (hlong : longE name l = false) (hf : ns.length + 1 ≤ 32768) :
    Calls Tryz.prog 12 #[.pointer (some ⟨bA, 0, none⟩), .int .i64 space, .string name, .slice a l.length cap] w fun e w' => e = .returned (.tuple #[.int .i64 ns.length, .int .i64 0]) ∧ ∃ av, Upd F w w' base bA (ns ++ [elemN space name l av]) := by
  have hbase := h.base_le
  obtain ⟨bS, g, cp, h, hF⟩ := h
  have hlen : l.length ≤ 1024 := by simp [longE] at hlong; omega
  have hnm : longS name = false := by simp [longE] at hlong; exact hlong.1.1
  have hla : l.any AttrM.long = false := by simp [longE] at hlong; simpa using hlong.2
  have HM := hide (made_yes h)
  have HL := hide (anyLong_any (w.alloc (.cells #[.string name] 9)) w.heap.size 1 [name] (one_cell_s w 9 name) (by simp))
  have hl1 := hl.below ((Below.refl _ w).alloc (Nat.le_refl _) (.cells #[.string name] 9))
  have HA := hide (anyLongAttr_any (w.alloc (.cells #[.string name] 9)) a cap l hl1 (by unfold maxLen; omega))
  have HB1 := hide ((Below.refl _ w).alloc (Nat.le_refl _) (.cells #[.string name] 9))
  have e1 : [name].any longS = longS name := by simp
  rw [e1, hnm] at HL
  rw [hla] at HA
  have HI := hide hl1
  have HH := hide h
  have HF := hide hF
  clear h hF hl hl1 e1 hnm hla hlong
  unfold isT at hs
  have hc' : ¬ (1024 : Int) < (l.length : Int) := by omega
  rcases hs with rfl | rfl | ⟨rfl, hne⟩
  all_goals
    go_enter Tryz.func12, Tryz.ntmps12
    go_wp2_with (first
      | (go_at_call 32; refine (unhide HM).mono ?_; rintro e w' ⟨rfl, rfl⟩)
      | (go_at_call 33; refine (unhide HL).mono ?_; rintro e w' ⟨rfl, rfl⟩)
      | (go_at_call 34; refine (unhide HA).mono ?_; rintro e w2 ⟨rfl, hb2⟩; have HB2 := hide hb2; clear hb2)
      | (go_at_call 31; refine (blank_any _).mono ?_; rintro e w' ⟨rfl, rfl⟩)
      | (go_at_call 35; refine (ownAttrs_any _ base (by have := (unhide HB2).size; simp at this ⊢; omega) a cap l ((((unhide HI).below (unhide HB2)).below ((Below.refl _ _).alloc (Nat.le_refl _) _)).below ((Below.refl _ _).alloc (Nat.le_refl _) _)) hlen).mono ?_; rintro e w4 ⟨ao, cp4, rfl, hov, hb4, hfr⟩; have HOV := hide hov; have HB4 := hide hb4; have HFR := hide hfr; obtain ⟨bc, bf⟩ := bcell hb4; simp at bc bf; clear hov hb4 hfr))
    obtain ⟨R1, R2, R3, R4⟩ := elem_ready (unhide HH) (unhide HB1) (unhide HB2) _ _ (unhide HB4) (mod3 w4 _ _ _ _ _) l hlen _ (unhide HOV) (unhide HFR) (elemN _ name l (.slice ao l.length cp4)) rfl rfl [] (by simp)
    refine (add_fits1 (n := elemN _ name l (.slice ao l.length cp4)) R2 R3 hf _ _ (last_block _ _ _ (by simp))).mono ?_
    rintro e w' ⟨rfl, g', cap', har, hmod, hgg⟩
    have HR1 := hide R1
    have HR4 := hide R4
    clear R1 R2 R3 R4 bc bf
    go_wp2
    go_ret2
    exact ⟨rfl, _, upd_add (unhide HF) (unhide HR1) har hmod hgg (unhide HR4)⟩
end Go.Proofs.YtmnmaenmoaehlaaGreatDoor

namespace Go.Proofs.YtmnmaenmoaehlaaGreatDoor
open Go.RowKit

theorem mod4 (w : World) (b : Nat) (v1 v2 v3 v4 : Value) (o1 o2 : Obj) : Mod (fun k => k = b) w ((((((w.setCell ⟨b, 1, none⟩ v1).setCell ⟨b, 2, none⟩ v2).setCell ⟨b, 3, none⟩ v3).setCell ⟨b, 11, none⟩ v4).alloc o1).alloc o2).drew :=
  ((((((Mod.setCell (F := fun k => k = b) w ⟨b, 1, none⟩ v1 rfl).trans (Mod.setCell (F := fun k => k = b) _ ⟨b, 2, none⟩ v2 rfl)).trans (Mod.setCell (F := fun k => k = b) _ ⟨b, 3, none⟩ v3 rfl)).trans (Mod.setCell (F := fun k => k = b) _ ⟨b, 11, none⟩ v4 rfl)).trans (Mod.alloc _ o1)).trans (Mod.alloc _ o2)).trans (Mod.of_below (Below.refl _ _).drew)

theorem last_block_drew (w : World) (o : Obj) (k : Nat) (hk : k = w.heap.size) : (w.alloc o).drew.heap[k]? = some o := last_block w o k hk

set_option maxHeartbeats 4000000 in
theorem element_tmpl {w : World} {base bA : Nat} {ns : List NodeM} {F : Nat → Prop} (h : ArS w base bA ns F) (name : ByteArray) (a : Option Addr) (cap : Nat) (l : List AttrM) (hl : AttrsIn w a l)
    (hs : isT name = true) (hlong : longE name l = false) (hf : ns.length + 2 ≤ 32768) :
    Calls Tryz.prog 12 #[.pointer (some ⟨bA, 0, none⟩), .int .i64 0, .string name, .slice a l.length cap] w fun e w' => e = .returned (.tuple #[.int .i64 ns.length, .int .i64 0]) ∧
      ∃ av, Upd F w w' base bA (ns ++ [{ elemN 0 name l av with inner := ns.length + 1 }, blankM 5]) := by
  have hbase := h.base_le
  obtain ⟨bS, g, cp, h, hF⟩ := h
  have hlen : l.length ≤ 1024 := by simp [longE] at hlong; omega
  have hnm : longS name = false := by simp [longE] at hlong; exact hlong.1.1
  have hla : l.any AttrM.long = false := by simp [longE] at hlong; simpa using hlong.2
  have HM := hide (made_yes h)
  have HL := hide (anyLong_any (w.alloc (.cells #[.string name] 9)) w.heap.size 1 [name] (one_cell_s w 9 name) (by simp))
  have hl1 := hl.below ((Below.refl _ w).alloc (Nat.le_refl _) (.cells #[.string name] 9))
  have HA := hide (anyLongAttr_any (w.alloc (.cells #[.string name] 9)) a cap l hl1 (by unfold maxLen; omega))
  have HB1 := hide ((Below.refl _ w).alloc (Nat.le_refl _) (.cells #[.string name] 9))
  have e1 : [name].any longS = longS name := by simp
  rw [e1, hnm] at HL
  rw [hla] at HA
  have HI := hide hl1
  have HH := hide h
  have HF := hide hF
  have ltA := h.lt.1
  have ltS := h.lt.2.1
  clear h hF hl hl1 e1 hnm hla hlong
  unfold isT at hs
  have hc' : ¬ (1024 : Int) < (l.length : Int) := by omega
  go_enter Tryz.func12, Tryz.ntmps12
  go_wp2_with (first
      | (go_at_call 32; refine (unhide HM).mono ?_; rintro e w' ⟨rfl, rfl⟩)
      | (go_at_call 33; refine (unhide HL).mono ?_; rintro e w' ⟨rfl, rfl⟩)
      | (go_at_call 34; refine (unhide HA).mono ?_; rintro e w2 ⟨rfl, hb2⟩; have HB2 := hide hb2; have sz2 : w.heap.size < w2.heap.size := (by have := hb2.size; simp at this; omega); have neA : ¬ bA = w2.heap.size + 1 := (by omega); have neS : ¬ bS = w2.heap.size + 1 := (by omega); clear hb2)
      | (go_at_call 31; refine (blank_any _).mono ?_; rintro e w' ⟨rfl, rfl⟩)
      | (go_at_call 35; refine (ownAttrs_any _ base (by have := (unhide HB2).size; simp at this ⊢; omega) a cap l ((((unhide HI).below (unhide HB2)).below ((Below.refl _ _).alloc (Nat.le_refl _) _)).below ((Below.refl _ _).alloc (Nat.le_refl _) _)) hlen).mono ?_; rintro e w4 ⟨ao, cp4, rfl, hov, hb4, hfr⟩; have HOV := hide hov; have HB4 := hide hb4; have HFR := hide hfr; have hz4 : w2.heap.size + 1 < w4.heap.size := (by have := hb4.size; simp at this; omega); have har4 := ((((unhide HH).below (unhide HB1)).below (unhide HB2)).alloc _ |>.alloc _).below hb4; have hA4 := har4.cA; have hS4 := har4.cS; obtain ⟨bc, bf⟩ := bcell hb4; simp at bc bf; clear hov hb4 hfr har4))
  go_region_with (first
      | (go_at_call 31; refine (blank_any _).mono ?_; rintro e w' ⟨rfl, rfl⟩)
      | (go_at_call 36; obtain ⟨R1, R2, R3, R4⟩ := elem_ready (unhide HH) (unhide HB1) (unhide HB2) _ _ (unhide HB4) (mod4 w4 _ _ _ _ _ _ _) l hlen _ (unhide HOV) (unhide HFR) { elemN 0 name l (.slice ao l.length cp4) with inner := ns.length + 1 } rfl rfl [blankM 5] (by simp [blankM]); refine (add_fits2 (n := { elemN 0 name l (.slice ao l.length cp4) with inner := ns.length + 1 }) (m := blankM 5) R2 R3 hf _ _ (last_block_drew _ _ _ (by simp))).mono ?_; rintro e w' ⟨rfl, g', cap', har, hmod, hgg⟩; have HR1 := hide R1; have HR4 := hide R4; clear R1 R2 R3 R4 bc bf))
  all_goals go_wp2
  all_goals go_ret2
  all_goals exact ⟨rfl, _, upd_add (unhide HF) (unhide HR1) har hmod hgg (unhide HR4)⟩
end Go.Proofs.YtmnmaenmoaehlaaGreatDoor
