/-
  Package active: a set of attributes; a token and an entry of one's own.
-/
import Derived.Test.YtdabgeippkmgaaaLf
namespace Go.Proofs.Ytdabgeippkmgaaa
open Go.RowKit Go.Sort

/-- Attributes that lie in a block of their own, not older than base. -/
structure AtrS (w : World) (base : Nat) (a : Option Addr) (l : List AttrM) : Prop where
  ins : AttrsIn w a l
  own : ∀ b off, a = some ⟨b, off, none⟩ → base ≤ b ∧ ∃ cur, w.heap[b]? = some (.cells cur 73 (0, 0))
  nil : l = [] ∨ ∃ b off, a = some ⟨b, off, none⟩
section
variable {w w' : World} {base : Nat} {a : Option Addr} {l : List AttrM}
theorem AtrS.empty (w : World) (base : Nat) : AtrS w base none [] := ⟨⟨fun i x h => by simp at h⟩, fun b off e => by (cases e), .inl rfl⟩
theorem AtrS.lt (h : AtrS w base a l) {b off : Nat} (e : a = some ⟨b, off, none⟩) : base ≤ b ∧ b < w.heap.size := by
  obtain ⟨h1, cur, h2⟩ := h.own b off e
  exact ⟨h1, lt_of_block h2⟩
theorem AtrS.mod {F : Nat → Prop} (h : AtrS w base a l) (hm : Mod F w w') (hF : ∀ b off, a = some ⟨b, off, none⟩ → ¬ F b) : AtrS w' base a l :=
  ⟨h.ins.modA hm hF, fun b off e => by
    obtain ⟨h1, cur, h2⟩ := h.own b off e
    exact ⟨h1, cur, (hm.block b (lt_of_block h2) (hF b off e)).trans h2⟩, h.nil⟩
theorem AtrS.below (h : AtrS w base a l) (hb : Below w.heap.size w w') : AtrS w' base a l := h.mod (Mod.of_below (F := fun _ => False) hb) (fun _ _ _ e => e)
theorem AtrS.lower {b2 : Nat} (h : AtrS w base a l) (hb : b2 ≤ base) : AtrS w b2 a l := ⟨h.ins, fun b off e => ⟨Nat.le_trans hb (h.own b off e).1, (h.own b off e).2⟩, h.nil⟩
end

theorem setL_nil : setL [] = [] := by simp [setL, sortA, compA]

/-- A whole block written anew, cell by cell. -/
theorem run_block (b : Nat) : ∀ (vs : List Value) (o : Nat) (w : World) (cur : Array Value) (t : TypeId), w.heap[b]? = some (.cells cur t (0, 0)) →
    ∃ cur', (w.setCells b o vs).heap[b]? = some (.cells cur' t (0, 0)) ∧ cur'.size = cur.size
  | [], _, w, cur, t, h => ⟨cur, h, rfl⟩
  | v :: r, o, w, cur, t, h => by
    have h1 := heap_setCell_same w b o cur t v h
    obtain ⟨cur', h2, h3⟩ := run_block b r (o + 1) _ _ t h1
    exact ⟨cur', h2, by rw [h3]; simp⟩
theorem run_other (b k : Nat) (hk : k ≠ b) : ∀ (vs : List Value) (o : Nat) (w : World), (w.setCells b o vs).heap[k]? = w.heap[k]?
  | [], _, _ => rfl
  | v :: r, o, w => by rw [World.setCells, run_other b k hk r]; exact Below.heap_setCell _ _ _ _ hk
theorem run_size (b : Nat) : ∀ (vs : List Value) (o : Nat) (w : World), (w.setCells b o vs).heap.size = w.heap.size
  | [], _, _ => rfl
  | v :: r, o, w => by rw [World.setCells, run_size b r]; simp
theorem run_rest (b : Nat) : ∀ (vs : List Value) (o : Nat) (w : World), (w.setCells b o vs).os = w.os ∧ (w.setCells b o vs).tape = w.tape ∧ (w.setCells b o vs).output = w.output
  | [], _, _ => ⟨rfl, rfl, rfl⟩
  | v :: r, o, w => by rw [World.setCells]; exact run_rest b r (o + 1) _
theorem run_mod {F : Nat → Prop} (b : Nat) (hb : F b) (vs : List Value) (o : Nat) (w : World) : Mod F w (w.setCells b o vs) := by
  obtain ⟨h1, h2, h3⟩ := run_rest b vs o w
  exact ⟨h1, h2, h3, by rw [run_size]; exact Nat.le_refl _, fun k _ hk => run_other b k (fun e => hk (by rw [e]; exact hb)) vs o w⟩
theorem run_whole (b : Nat) (vs : List Value) (w : World) (cur : Array Value) (t : TypeId) (h : w.heap[b]? = some (.cells cur t (0, 0))) (hs : cur.size = vs.length) :
    (w.setCells b 0 vs).heap[b]? = some (.cells vs.toArray t (0, 0)) := by
  obtain ⟨cur', h1, h2⟩ := run_block b vs 0 w cur t h
  have hin : ∀ j, j < vs.length → (w.cell? ⟨b, 0 + j, none⟩).isSome = true := by
    intro j hj
    rw [cell_of_row w b _ _ _ _ h, Array.getElem?_eq_getElem (by omega)]; rfl
  have e : cur' = vs.toArray := by
    apply Array.ext_getElem?
    intro j
    by_cases hj : j < vs.length
    · have h3 := World.cell?_setCells_in b vs 0 w hin j hj
      rw [cell_of_row _ b _ _ _ _ h1, Nat.zero_add] at h3
      rw [h3, List.getElem?_toArray, List.getElem?_eq_getElem hj]
    · rw [Array.getElem?_eq_none (by omega), List.getElem?_toArray, List.getElem?_eq_none (by omega)]
  rw [e] at h1
  exact h1

theorem ownA_nil (w : World) (a : Option Addr) (cap : Nat) : Calls Try.prog 164 #[.slice a 0 cap] w fun e w' => e = .returned (.slice none 0 0) ∧ w' = w := by
  refine (ownA_any w a cap [] ⟨fun i x h => by simp at h⟩ (by simp)).mono ?_
  rintro e w' (⟨_, h1, h2⟩ | ⟨h, _⟩)
  · exact ⟨h1, h2⟩
  · simp at h
theorem ownA_pos (w : World) (a : Option Addr) (cap : Nat) (l : List AttrM) (hl : AttrsIn w a l) (hn : l.length ≤ 2513169434916) (hp : 0 < l.length) :
    Calls Try.prog 164 #[.slice a l.length cap] w fun e w' => e = .returned (.slice (some ⟨w.heap.size, 0, none⟩) l.length l.length) ∧ RowT w' w.heap.size l ∧ Below w.heap.size w w' := by
  refine (ownA_any w a cap l hl hn).mono ?_
  rintro e w' (⟨h, _⟩ | ⟨_, h1, h2, h3⟩)
  · subst h; simp at hp
  · exact ⟨h1, h2, h3⟩
theorem compactN_any (w : World) : Calls Try.prog 188 #[.slice none 0 0] w fun e w' => e = .returned (.slice none 0 0) ∧ w' = w := by
  go_enter Try.func188, Try.ntmps188
  go_wp2
  go_ret
  exact ⟨rfl, rfl⟩
/-- A list of one's own, empty or not. -/
theorem ownA_s (w : World) (a : Option Addr) (cap : Nat) (l : List AttrM) (hl : AttrsIn w a l) (hn : l.length ≤ 2513169434916) :
    Calls Try.prog 164 #[.slice a l.length cap] w fun e w' => ∃ ao ac, e = .returned (.slice ao l.length ac) ∧ AtrS w' w.heap.size ao l ∧ Below w.heap.size w w' := by
  refine (ownA_any w a cap l hl hn).mono ?_
  rintro e w' (⟨rfl, rfl, rfl⟩ | ⟨_, rfl, h2, h3⟩)
  · exact ⟨none, 0, rfl, AtrS.empty _ _, Below.refl _ _⟩
  · exact ⟨_, _, rfl, ⟨h2.attrs, fun b off e => by cases e; exact ⟨Nat.le_refl _, _, h2⟩, .inr ⟨_, _, rfl⟩⟩, h3⟩

set_option maxHeartbeats 1000000 in
theorem setOf_any (w : World) (a : Option Addr) (cap : Nat) (l : List AttrM) (hl : AttrsIn w a l) (hn : l.length ≤ 2513169434916) :
    Calls Try.prog 165 #[.slice a l.length cap] w fun e w' => ∃ so sc, e = .returned (.slice so (setL l).length sc) ∧ AtrS w' w.heap.size so (setL l) ∧ Below w.heap.size w w' := by
  by_cases h0 : l = []
  · subst h0
    go_enter Try.func165, Try.ntmps165
    go_wp2_with (first | (go_at_call 164; refine (ownA_nil _ _ _).mono ?_; rintro e w1 ⟨rfl, rfl⟩) | (go_at_call 186; refine (sortN_any _ _).mono ?_; rintro e w2 ⟨rfl, rfl⟩) | (go_at_call 188; refine (compactN_any _).mono ?_; rintro e w2 ⟨rfl, rfl⟩))
    go_ret
    exact ⟨none, 0, by rw [setL_nil]; rfl, by rw [setL_nil]; exact AtrS.empty _ _, Below.refl _ _⟩
  · have HO := hide (ownA_pos w a cap l hl hn (List.length_pos_iff.2 h0))
    have HN := hide hn
    have HLS := hide (sortA_len l)
    have HC := hide (fun W (h : RowT W w.heap.size (sortA l)) => compact_any h (by rw [sortA_len]; exact hn))
    rw [sortA_len] at HC
    clear hl hn h0
    go_enter Try.func165, Try.ntmps165
    go_wp2_with (first | (go_at_call 164; refine (unhide HO).mono ?_; rintro e w1 ⟨rfl, hr, hb⟩; have HR := hide hr; have HB := hide hb; clear hr hb) | (go_at_call 186; refine (sort_any (unhide HR) _ (unhide HN)).mono ?_; rintro e w2 ⟨rfl, hr, hm⟩; have HR2 := hide hr; have HM2 := hide hm; clear hr hm) | (go_at_call 188; refine ((unhide HC) _ (unhide HR2)).mono ?_; rintro e w3 ⟨rfl, ha, hc, hm⟩; have HA3 := hide ha; have HC3 := hide hc; have HM3 := hide hm; clear ha hc hm))
    go_ret
    have hM : Mod (fun k => k = w.heap.size) w1 w3 := (unhide HM2).trans (unhide HM3)
    have hB : Below w.heap.size w w3 := (unhide HB).trans (hM.below (unhide HB).size (fun k e => by omega))
    refine ⟨_, _, rfl, ⟨unhide HA3, fun b off e => ?_, .inr ⟨_, _, rfl⟩⟩, hB⟩
    cases e
    exact ⟨Nat.le_refl _, unhide HC3⟩

/-- A token. -/
structure TokM where
  kind : Int
  name : ByteArray
  data : ByteArray
  system : ByteArray
  has : Int
  quirks : Bool
  char : Int
  self : Bool
  attrs : List AttrM
def TokM.cells (t : TokM) (v : Value) : List Value := [.int .i64 t.kind, .string t.name, .string t.data, .string t.system, .int .i64 t.has, .bool t.quirks, .int .i32 t.char, .bool t.self, v]
def tok0 : TokM := ⟨0, ⟨#[]⟩, ⟨#[]⟩, ⟨#[]⟩, 0, false, 0, false, []⟩

/-- The first of two new blocks, and the second. -/
theorem two_new (w : World) (A B : Obj) (w1 : World) (hb : Below ((w.alloc A).alloc B).heap.size ((w.alloc A).alloc B) w1) : w1.heap[w.heap.size]? = some A ∧ w1.heap[w.heap.size + 1]? = some B ∧ Below w.heap.size w w1 :=
  ⟨(hb.block _ (by simp; omega)).trans (heap_alloc2_old w A B), (hb.block _ (by simp)).trans (heap_alloc2_new w A B), (below_two w A B).trans (hb.mono (by simp; omega))⟩

theorem free_row {w : World} {b : Nat} {cs : Array Value} {t : TypeId} (h : w.heap[b]? = some (.cells cs t (0, 0))) (j : Nat) : w.frozen? ⟨b, j, none⟩ = false := by simp [World.frozen?, h]
theorem nine {w : World} {b : Nat} {v0 v1 v2 v3 v4 v5 v6 v7 v8 : Value} {t : TypeId} (h : w.heap[b]? = some (.cells #[v0, v1, v2, v3, v4, v5, v6, v7, v8] t (0, 0))) :
    w.cell? ⟨b, 0, none⟩ = some v0 ∧ w.cell? ⟨b, 1, none⟩ = some v1 ∧ w.cell? ⟨b, 2, none⟩ = some v2 ∧ w.cell? ⟨b, 3, none⟩ = some v3 ∧ w.cell? ⟨b, 4, none⟩ = some v4 ∧ w.cell? ⟨b, 5, none⟩ = some v5 ∧ w.cell? ⟨b, 6, none⟩ = some v6 ∧ w.cell? ⟨b, 7, none⟩ = some v7 ∧ w.cell? ⟨b, 8, none⟩ = some v8 ∧ ∀ j, w.frozen? ⟨b, j, none⟩ = false :=
  ⟨cell_of_row _ _ 0 _ _ _ h, cell_of_row _ _ 1 _ _ _ h, cell_of_row _ _ 2 _ _ _ h, cell_of_row _ _ 3 _ _ _ h, cell_of_row _ _ 4 _ _ _ h, cell_of_row _ _ 5 _ _ _ h, cell_of_row _ _ 6 _ _ _ h, cell_of_row _ _ 7 _ _ _ h, cell_of_row _ _ 8 _ _ _ h, free_row h⟩

set_option maxHeartbeats 2000000 in
theorem ownTok_any (w : World) (t : TokM) (a : Option Addr) (cap : Nat) (hl : AttrsIn w a t.attrs) (hn : t.attrs.length ≤ 2513169434916) :
    Calls Try.prog 92 #[.agg (t.cells (.slice a t.attrs.length cap)).toArray] w fun e w' => ∃ ao ac, e = .returned (.agg (t.cells (.slice ao t.attrs.length ac)).toArray) ∧ AtrS w' w.heap.size ao t.attrs ∧ Below w.heap.size w w' := by
  obtain ⟨t0, t1, t2, t3, t4, t5, t6, t7, ta⟩ := t
  simp only [TokM.cells] at *
  have hb0 := below_two w (.cells #[.int .i64 t0, .string t1, .string t2, .string t3, .int .i64 t4, .bool t5, .int .i32 t6, .bool t7, .slice a ta.length cap] 52) (.cells #[.int .i64 0, .string ⟨#[]⟩, .string ⟨#[]⟩, .string ⟨#[]⟩, .int .i64 0, .bool false, .int .i32 0, .bool false, .slice none 0 0] 52)
  have HO := hide (ownA_s _ a cap ta (hl.below hb0) hn)
  have HT := hide (two_new w (.cells #[.int .i64 t0, .string t1, .string t2, .string t3, .int .i64 t4, .bool t5, .int .i32 t6, .bool t7, .slice a ta.length cap] 52) (.cells #[.int .i64 0, .string ⟨#[]⟩, .string ⟨#[]⟩, .string ⟨#[]⟩, .int .i64 0, .bool false, .int .i32 0, .bool false, .slice none 0 0] 52))
  clear hl hn hb0
  go_enter Try.func92, Try.ntmps92
  go_wp2_with (go_at_call 164; refine (unhide HO).mono ?_; rintro e w1 ⟨ao, ac, rfl, ha, hb⟩; obtain ⟨k0, k1, k2⟩ := (unhide HT) _ hb; have K0 := hide k0; have K1 := hide k1; have K2 := hide k2; have HA := hide ha; obtain ⟨c0, c1, c2, c3, c4, c5, c6, c7, c8, cf⟩ := nine k0; obtain ⟨d0, d1, d2, d3, d4, d5, d6, d7, d8, df⟩ := nine k1; clear ha hb k0 k1 k2)
  have hb1 : (w1.setCell ⟨w.heap.size, 8, none⟩ (.slice ao ta.length ac)).heap[w.heap.size + 1]? = _ := (Below.heap_setCell _ _ _ _ (by simp)).trans (unhide K1)
  have hblk := run_whole (w.heap.size + 1) [.int .i64 t0, .string t1, .string t2, .string t3, .int .i64 t4, .bool t5, .int .i32 t6, .bool t7, .slice ao ta.length ac] _ _ _ hb1 rfl
  have hM : Mod (fun k => k = w.heap.size ∨ k = w.heap.size + 1) w1 ((w1.setCell ⟨w.heap.size, 8, none⟩ (.slice ao ta.length ac)).setCells (w.heap.size + 1) 0 [.int .i64 t0, .string t1, .string t2, .string t3, .int .i64 t4, .bool t5, .int .i32 t6, .bool t7, .slice ao ta.length ac]) :=
    (Mod.setCell _ _ _ (.inl rfl)).trans (run_mod _ (.inr rfl) _ _ _)
  refine bodyPost_ret (v := .agg #[.int .i64 t0, .string t1, .string t2, .string t3, .int .i64 t4, .bool t5, .int .i32 t6, .bool t7, .slice ao ta.length ac]) (results_cell_row Try.results92 _ _ (w.heap.size + 1) _ _ _ _ rfl hblk Try.underlying52 rfl (by kernel_rfl)) rfl ⟨ao, ac, rfl, ?_, ?_⟩
  · refine ((unhide HA).mod hM (fun b off e => ?_)).lower (by simp; omega)
    have := ((unhide HA).lt e).1
    simp at this
    omega
  · exact (unhide K2).trans (hM.below (unhide K2).size (fun k hk => by omega))
end Go.Proofs.Ytdabgeippkmgaaa
