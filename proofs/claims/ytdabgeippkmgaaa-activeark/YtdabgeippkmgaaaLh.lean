/-
  Package active: an entry in memory; a row of entries in memory.
-/
import Derived.Test.YtdabgeippkmgaaaLg
import Derived.Deep.RegionWith
namespace Go.Proofs.Ytdabgeippkmgaaa
open Go.RowKit Go.Sort

/-- An entry: its element's number, namespace and name, its token. -/
structure EntM where
  node : Int
  sp : Int
  nm : ByteArray
  tok : TokM
def mark0 : EntM := ⟨-1, 0, ⟨#[]⟩, tok0⟩
def EntM.cells (x : EntM) (av sv : Value) : List Value :=
  [.int .i64 x.node, .int .i64 x.sp, .string x.nm, .int .i64 x.tok.kind, .string x.tok.name, .string x.tok.data, .string x.tok.system, .int .i64 x.tok.has, .bool x.tok.quirks, .int .i32 x.tok.char, .bool x.tok.self, av, sv]

/-- Attributes that lie in a block of F. -/
structure AtrF (w : World) (F : Nat → Prop) (a : Option Addr) (l : List AttrM) : Prop where
  ins : AttrsIn w a l
  own : ∀ b off, a = some ⟨b, off, none⟩ → F b ∧ ∃ cur, w.heap[b]? = some (.cells cur 73 (0, 0))
  nil : l = [] ∨ ∃ b off, a = some ⟨b, off, none⟩
/-- The entry at block b, within F. -/
structure EntIn (w : World) (F : Nat → Prop) (b : Nat) (x : EntM) : Prop where
  fb : F b
  few : x.tok.attrs.length ≤ 2513169434916
  lies : ∃ ao ac so sc, w.heap[b]? = some (.cells (x.cells (.slice ao x.tok.attrs.length ac) (.slice so (setL x.tok.attrs).length sc)).toArray 137 (0, 0)) ∧ AtrF w F ao x.tok.attrs ∧ AtrF w F so (setL x.tok.attrs)

section
variable {w w' : World} {F G : Nat → Prop} {a : Option Addr} {l : List AttrM} {b : Nat} {x : EntM}
theorem AtrS.f {base : Nat} (h : AtrS w base a l) (hF : ∀ k, base ≤ k → k < w.heap.size → F k) : AtrF w F a l :=
  ⟨h.ins, fun b off e => ⟨hF b (h.lt e).1 (h.lt e).2, (h.own b off e).2⟩, h.nil⟩
theorem AtrF.wide (h : AtrF w F a l) (hF : ∀ k, F k → G k) : AtrF w G a l := ⟨h.ins, fun b off e => ⟨hF _ (h.own b off e).1, (h.own b off e).2⟩, h.nil⟩
/-- Where the blocks of F that hold attributes or entries stay as they are. -/
theorem AtrF.keep (h : AtrF w F a l) (hk : ∀ k cur, F k → w.heap[k]? = some (.cells cur 73 (0, 0)) → w'.heap[k]? = w.heap[k]?) : AtrF w' F a l := by
  refine ⟨⟨fun i y hi => ?_⟩, fun b off e => ?_, h.nil⟩
  · obtain ⟨b, off, e, c0, c1, c2, c3⟩ := h.ins.cells i y hi
    obtain ⟨hf, cur, hc⟩ := h.own b off e
    have hb := hk b cur hf hc
    exact ⟨b, off, e, (World.cell?_of_block hb).trans c0, (World.cell?_of_block hb).trans c1, (World.cell?_of_block hb).trans c2, (World.cell?_of_block hb).trans c3⟩
  · obtain ⟨hf, cur, hc⟩ := h.own b off e
    exact ⟨hf, cur, (hk b cur hf hc).trans hc⟩
theorem EntIn.lt (h : EntIn w F b x) : b < w.heap.size := by
  obtain ⟨_, _, _, _, h, _⟩ := h.lies
  exact lt_of_block h
theorem EntIn.wide (h : EntIn w F b x) (hF : ∀ k, F k → G k) : EntIn w G b x := by
  obtain ⟨ao, ac, so, sc, h1, h2, h3⟩ := h.lies
  exact ⟨hF _ h.fb, h.few, ao, ac, so, sc, h1, h2.wide hF, h3.wide hF⟩
theorem EntIn.keep (h : EntIn w F b x) (hb : w'.heap[b]? = w.heap[b]?) (hk : ∀ k cur, F k → w.heap[k]? = some (.cells cur 73 (0, 0)) → w'.heap[k]? = w.heap[k]?) : EntIn w' F b x := by
  obtain ⟨ao, ac, so, sc, h1, h2, h3⟩ := h.lies
  exact ⟨h.fb, h.few, ao, ac, so, sc, hb.trans h1, h2.keep hk, h3.keep hk⟩
theorem EntIn.mod (h : EntIn w F b x) (hm : Mod G w w') (hG : ∀ k, F k → ¬ G k) : EntIn w' F b x :=
  h.keep (hm.block b h.lt (hG b h.fb)) (fun k _ hk hc => hm.block k (lt_of_block hc) (hG k hk))

theorem isMarker_any (h : EntIn w F b x) : Calls Try.prog 163 #[.pointer (some ⟨b, 0, none⟩)] w fun e w' => e = .returned (.bool (x.node == -1)) ∧ w = w' := by
  obtain ⟨ao, ac, so, sc, h1, _⟩ := h.lies
  have c0 : w.cell? ⟨b, 0, none⟩ = some (.int .i64 x.node) := cell_of_row _ _ 0 _ _ _ h1
  clear h h1
  go_enter Try.func163, Try.ntmps163
  go_wp2
  go_ret
  exact ⟨rfl, rfl⟩
end

set_option maxHeartbeats 2000000 in
theorem newMarker_any (w : World) : Calls Try.prog 97 #[] w fun e w' => e = .returned (.pointer (some ⟨w.heap.size, 0, none⟩)) ∧ EntIn w' (fun k => w.heap.size ≤ k ∧ k < w'.heap.size) w.heap.size mark0 ∧ Below w.heap.size w w' := by
  go_enter Try.func97, Try.ntmps97
  go_wp2
  go_ret
  refine ⟨rfl, ⟨by simp, by simp [mark0, tok0], none, 0, none, 0, ?_, (AtrS.empty _ w.heap.size).f (fun k h1 h2 => ⟨h1, h2⟩), ?_⟩, below_new _ _⟩
  · show _ = some (Obj.cells (mark0.cells (.slice none 0 0) (.slice none (setL []).length 0)).toArray _ _)
    rw [setL_nil]
    exact heap_alloc_new w _
  · show AtrF _ _ none (setL [])
    rw [setL_nil]
    exact (AtrS.empty _ w.heap.size).f (fun k h1 h2 => ⟨h1, h2⟩)
set_option maxHeartbeats 4000000 in
theorem newEntry_any (w : World) (id sp : Int) (nm : ByteArray) (t : TokM) (a : Option Addr) (cap : Nat) (hl : AttrsIn w a t.attrs) (hn : t.attrs.length ≤ 2513169434916) :
    Calls Try.prog 99 #[.int .i64 id, .agg #[.int .i64 sp, .string nm], .agg (t.cells (.slice a t.attrs.length cap)).toArray] w fun e w' => ∃ b, e = .returned (.pointer (some ⟨b, 0, none⟩)) ∧ EntIn w' (fun k => w.heap.size ≤ k ∧ k < w'.heap.size) b ⟨id, sp, nm, t⟩ ∧ Below w.heap.size w w' := by
  have HOT := hide (fun W (hb : Below w.heap.size w W) => ownTok_any W t a cap (hl.below hb) hn)
  have HSO := hide (fun W (hb : Below w.heap.size w W) => setOf_any W a cap t.attrs (hl.below hb) hn)
  have HNN := hide hn
  clear hl hn
  obtain ⟨t0, t1, t2, t3, t4, t5, t6, t7, ta⟩ := t
  simp only [TokM.cells] at *
  have hcc : ∀ W', Below ((w.alloc (.cells #[.int .i64 sp, .string nm] 135)).alloc (.cells #[.int .i64 t0, .string t1, .string t2, .string t3, .int .i64 t4, .bool t5, .int .i32 t6, .bool t7, .slice a ta.length cap] 52)).heap.size ((w.alloc (.cells #[.int .i64 sp, .string nm] 135)).alloc (.cells #[.int .i64 t0, .string t1, .string t2, .string t3, .int .i64 t4, .bool t5, .int .i32 t6, .bool t7, .slice a ta.length cap] 52)) W' → (W'.cell? ⟨w.heap.size, 0, none⟩ = some (.int .i64 sp) ∧ W'.cell? ⟨w.heap.size, 1, none⟩ = some (.string nm) ∧ W'.cell? ⟨w.heap.size + 1, 0, none⟩ = some (.int .i64 t0) ∧ W'.cell? ⟨w.heap.size + 1, 1, none⟩ = some (.string t1) ∧ W'.cell? ⟨w.heap.size + 1, 2, none⟩ = some (.string t2) ∧ W'.cell? ⟨w.heap.size + 1, 3, none⟩ = some (.string t3) ∧ W'.cell? ⟨w.heap.size + 1, 4, none⟩ = some (.int .i64 t4) ∧ W'.cell? ⟨w.heap.size + 1, 5, none⟩ = some (.bool t5) ∧ W'.cell? ⟨w.heap.size + 1, 6, none⟩ = some (.int .i32 t6) ∧ W'.cell? ⟨w.heap.size + 1, 7, none⟩ = some (.bool t7) ∧ W'.cell? ⟨w.heap.size + 1, 8, none⟩ = some (.slice a ta.length cap)) ∧ Below w.heap.size w W' := by
    intro W' hb
    obtain ⟨h1, h2, h3⟩ := two_new w _ _ W' hb
    obtain ⟨d0, d1, d2, d3, d4, d5, d6, d7, d8, _⟩ := nine h2
    exact ⟨⟨cell_of_row _ _ 0 _ _ _ h1, cell_of_row _ _ 1 _ _ _ h1, d0, d1, d2, d3, d4, d5, d6, d7, d8⟩, h3⟩
  have HCC := hide hcc
  clear hcc
  go_enter Try.func99, Try.ntmps99
  go_wp2_with fail
  go_region_held3 (fun W' => W'.cell? ⟨w.heap.size, 0, none⟩ = some (.int .i64 sp) ∧ W'.cell? ⟨w.heap.size, 1, none⟩ = some (.string nm) ∧ W'.cell? ⟨w.heap.size + 1, 0, none⟩ = some (.int .i64 t0) ∧ W'.cell? ⟨w.heap.size + 1, 1, none⟩ = some (.string t1) ∧ W'.cell? ⟨w.heap.size + 1, 2, none⟩ = some (.string t2) ∧ W'.cell? ⟨w.heap.size + 1, 3, none⟩ = some (.string t3) ∧ W'.cell? ⟨w.heap.size + 1, 4, none⟩ = some (.int .i64 t4) ∧ W'.cell? ⟨w.heap.size + 1, 5, none⟩ = some (.bool t5) ∧ W'.cell? ⟨w.heap.size + 1, 6, none⟩ = some (.int .i32 t6) ∧ W'.cell? ⟨w.heap.size + 1, 7, none⟩ = some (.bool t7) ∧ W'.cell? ⟨w.heap.size + 1, 8, none⟩ = some (.slice a ta.length cap)) (first | exact ((unhide HCC) _ (unhide HB2)).1 | exact ((unhide HCC) _ (unhide HB1)).1 | exact ((unhide HCC) _ (Below.refl _ ((w.alloc (.cells #[.int .i64 sp, .string nm] 135)).alloc (.cells #[.int .i64 t0, .string t1, .string t2, .string t3, .int .i64 t4, .bool t5, .int .i32 t6, .bool t7, .slice a ta.length cap] 52)))).1 | exact ((unhide HCC) _ ((unhide HB2).alloc (unhide HB2).size _)).1) (first
    | (go_at_call 92; refine ((unhide HOT) _ (by first | exact ((unhide HCC) _ (Below.refl _ _)).2 | exact ((unhide HCC) _ (Below.refl _ _).drew).2)).mono ?_; rintro e w1 ⟨ao, ac, rfl, ha, hb⟩; have HA := hide ha; have HB1 := hide (show Below ((w.alloc (.cells #[.int .i64 sp, .string nm] 135)).alloc (.cells #[.int .i64 t0, .string t1, .string t2, .string t3, .int .i64 t4, .bool t5, .int .i32 t6, .bool t7, .slice a ta.length cap] 52)).heap.size ((w.alloc (.cells #[.int .i64 sp, .string nm] 135)).alloc (.cells #[.int .i64 t0, .string t1, .string t2, .string t3, .int .i64 t4, .bool t5, .int .i32 t6, .bool t7, .slice a ta.length cap] 52)) w1 from ⟨hb.os, hb.tape, hb.output, hb.size, hb.block⟩); clear ha hb)
    | (go_at_call 165; refine ((unhide HSO) _ (by first | exact ((unhide HCC) _ (unhide HB1)).2 | exact ((unhide HCC) _ (unhide HB1).drew).2)).mono ?_; rintro e w2 ⟨so, sc, rfl, ha, hb⟩; have HA2 := hide ha; have HB12 := hide (show Below w1.heap.size w1 w2 from ⟨hb.os, hb.tape, hb.output, hb.size, hb.block⟩); have HB2 := hide ((unhide HB1).trans ((unhide HB12).mono (unhide HB1).size)); clear ha hb))
  all_goals go_wp2
  all_goals go_ret
  all_goals have hw2 := ((unhide HCC) _ (unhide HB2)).2
  all_goals have hs1 := (unhide HB12).size
  all_goals have hs0 := ((unhide HCC) _ (unhide HB1)).2.size
  all_goals have hb3 := below_new w2 (.cells #[.int .i64 id, .int .i64 sp, .string nm, .int .i64 t0, .string t1, .string t2, .string t3, .int .i64 t4, .bool t5, .int .i32 t6, .bool t7, .slice ao ta.length ac, .slice so (setL ta).length sc] 137)
  all_goals have A1 := ((unhide HA).below (unhide HB12)).below hb3
  all_goals have A2 := (unhide HA2).below hb3
  all_goals exact ⟨w2.heap.size, rfl, ⟨⟨hw2.size, by simp⟩, unhide HNN, ao, ac, so, sc, heap_alloc_new w2 _, A1.f (fun k h1 h2 => ⟨by simp at h1; omega, h2⟩), A2.f (fun k h1 h2 => ⟨by omega, h2⟩)⟩, hw2.trans (hb3.mono hw2.size)⟩
end Go.Proofs.Ytdabgeippkmgaaa
