/-
  Both arenas, made side by side, with a block beside them.
-/
import Derived.Test.YtmnmaenmoaehlaaGreatDoorSZbt
namespace Go.Proofs.YtmnmaenmoaehlaaGreatDoor
open Go.RowKit Go.Lib

/-- Both arenas in memory, and a block beside them. -/
def K2 (w wx : World) (bA bR : Nat) (oa ob : List OneM) (bo : Nat) (O : Obj) : Prop :=
  Below w.heap.size w wx ∧ ∃ ns F G, ArS wx w.heap.size bA ns F ∧ Sim ns oa ∧ RfS wx w.heap.size bR ob G ∧ (∃ n1, Sim n1 ob) ∧ (∀ k, F k → ¬ G k) ∧ wx.heap[bo]? = some O ∧ ¬ F bo ∧ ¬ G bo
section
variable {w wx w' : World} {bA bR : Nat} {oa ob : List OneM} {bo : Nat} {O : Obj}
theorem K2.a (h : K2 w wx bA bR oa ob bo O) : ∃ ns F, ArS wx w.heap.size bA ns F ∧ Sim ns oa ∧ ∀ w2 o2, USim F wx w2 w.heap.size bA o2 → K2 w w2 bA bR o2 ob bo O := by
  obtain ⟨hb, ns, F, G, ha, hs, hr, hn, hd, hO, hOF, hOG⟩ := h
  refine ⟨ns, F, ha, hs, fun w2 o2 hu => ?_⟩
  obtain ⟨ms, ⟨F', h1, h2, h3⟩, h4⟩ := hu
  refine ⟨hb.trans (h2.below hb.size (fun k hk => (ha.lt hk).1)), ms, F', G, h1, h4, hr.mod h2 (fun k hg hf => hd k hf hg), hn, fun k hk hg => ?_, (h2.block bo (lt_of_block hO) hOF).trans hO, fun hk => ?_, hOG⟩
  · rcases h3 k hk with h5 | h5
    · exact hd k h5 hg
    · have := (hr.lt hg).2; omega
  · rcases h3 bo hk with h5 | h5
    · exact hOF h5
    · have := lt_of_block hO; omega
theorem K2.r (h : K2 w wx bA bR oa ob bo O) : ∃ G, RfS wx w.heap.size bR ob G ∧ ∀ w2 o2, (∃ n1, Sim n1 o2) → URf G wx w2 w.heap.size bR o2 → K2 w w2 bA bR oa o2 bo O := by
  obtain ⟨hb, ns, F, G, ha, hs, hr, hn, hd, hO, hOF, hOG⟩ := h
  refine ⟨G, hr, fun w2 o2 hn2 hu => ?_⟩
  obtain ⟨G', h1, h2, h3⟩ := hu
  refine ⟨hb.trans (h2.below hb.size (fun k hk => (hr.lt hk).1)), ns, F, G', ha.mod h2 (fun k hf hg => hd k hf hg), hs, h1, hn2, fun k hf hg => ?_, (h2.block bo (lt_of_block hO) hOG).trans hO, hOF, fun hk => ?_⟩
  · rcases h3 k hg with h5 | h5
    · exact hd k hf h5
    · have := (ha.lt hf).2; omega
  · rcases h3 bo hk with h5 | h5
    · exact hOG h5
    · have := lt_of_block hO; omega
theorem K2.more (h : K2 w wx bA bR oa ob bo O) (hb2 : Below wx.heap.size wx w') : K2 w w' bA bR oa ob bo O := by
  obtain ⟨hb, ns, F, G, ha, hs, hr, hn, hd, hO, hOF, hOG⟩ := h
  exact ⟨hb.trans (hb2.mono hb.size), ns, F, G, ha.mod (Mod.of_below hb2) (fun _ _ e => e), hs, hr.below hb2, hn, hd, (hb2.block _ (lt_of_block hO)).trans hO, hOF, hOG⟩
theorem K2.simA (h : K2 w wx bA bR oa ob bo O) : ∃ n1, Sim n1 oa := by obtain ⟨_, ns, _, _, _, hs, _⟩ := h; exact ⟨ns, hs⟩

theorem K2.elem (h : K2 w wx bA bR oa ob bo O) (sp : Int) (nm : ByteArray) (a : Option Addr) (cap : Nat) (l : List AttrM) (hl : AttrsIn wx a l) (hn : l.length ≤ maxLen) :
    Calls Tryz.prog 12 #[.pointer (some ⟨bA, 0, none⟩), .int .i64 sp, .string nm, .slice a l.length cap] wx fun e w' => e = .returned (.tuple #[.int .i64 (elemO oa sp nm l).2.1, .int .i64 (elemO oa sp nm l).2.2]) ∧ K2 w w' bA bR (elemO oa sp nm l).1 ob bo O := by
  obtain ⟨ns, F, ha, hs, hk⟩ := h.a
  exact (element_sim ha hs sp nm a cap l hl hn).mono fun e w' ⟨h1, h2⟩ => ⟨h1, hk _ _ h2⟩
theorem K2.text (h : K2 w wx bA bR oa ob bo O) (s : ByteArray) : Calls Tryz.prog 16 #[.pointer (some ⟨bA, 0, none⟩), .string s] wx fun e w' => e = .returned (.tuple #[.int .i64 (dataO oa 2 s).2.1, .int .i64 (dataO oa 2 s).2.2]) ∧ K2 w w' bA bR (dataO oa 2 s).1 ob bo O := by
  obtain ⟨ns, F, ha, hs, hk⟩ := h.a
  exact (text_sim ha hs s).mono fun e w' ⟨h1, h2⟩ => ⟨h1, hk _ _ h2⟩
theorem K2.comment (h : K2 w wx bA bR oa ob bo O) (s : ByteArray) : Calls Tryz.prog 18 #[.pointer (some ⟨bA, 0, none⟩), .string s] wx fun e w' => e = .returned (.tuple #[.int .i64 (dataO oa 3 s).2.1, .int .i64 (dataO oa 3 s).2.2]) ∧ K2 w w' bA bR (dataO oa 3 s).1 ob bo O := by
  obtain ⟨ns, F, ha, hs, hk⟩ := h.a
  exact (comment_sim ha hs s).mono fun e w' ⟨h1, h2⟩ => ⟨h1, hk _ _ h2⟩
theorem K2.link (h : K2 w wx bA bR oa ob bo O) (p c b : Int) : Calls Tryz.prog 14 #[.pointer (some ⟨bA, 0, none⟩), .int .i64 p, .int .i64 c, .int .i64 b] wx fun e w' => e = .returned (.int .i64 (linkE oa p c b)) ∧ K2 w w' bA bR (linkR oa p c b) ob bo O := by
  obtain ⟨ns, F, ha, hs, hk⟩ := h.a
  exact (link_sim ha hs p c b).mono fun e w' ⟨h1, h2⟩ => ⟨h1, hk _ _ h2⟩
theorem K2.relem {sp : Int} {nm : ByteArray} {a : Option Addr} {cap : Nat} {l : List AttrM} (h : K2 w wx bA bR (elemO ob sp nm l).1 ob bo O) (hl : AttrsIn wx a l) (hn : l.length ≤ maxLen) :
    Calls Tryz.prog 13 #[.pointer (some ⟨bR, 0, none⟩), .int .i64 sp, .string nm, .slice a l.length cap] wx fun e w' => e = .returned (.tuple #[.int .i64 (elemO ob sp nm l).2.1, .int .i64 (elemO ob sp nm l).2.2]) ∧ K2 w w' bA bR (elemO ob sp nm l).1 (elemO ob sp nm l).1 bo O := by
  have hsa := h.simA
  obtain ⟨G, hr, hk⟩ := h.r
  have key : Calls Tryz.prog 13 #[.pointer (some ⟨bR, 0, none⟩), .int .i64 sp, .string nm, .slice a l.length cap] wx fun e w' => e = .returned (.tuple #[.int .i64 (elemO ob sp nm l).2.1, .int .i64 (elemO ob sp nm l).2.2]) ∧ URf G wx w' w.heap.size bR (elemO ob sp nm l).1 := by
    by_cases h1 : sp < 0 ∨ 2 < sp
    · have e : elemO ob sp nm l = (ob, 0, 1) := by unfold elemO; rw [if_pos h1]
      rw [e]
      exact (refElement_space sp nm _ h1).mono fun e w' ⟨h1, h2⟩ => ⟨h1, hr.upd (h2 ▸ Below.refl _ _)⟩
    · by_cases h2 : 1024 < l.length ∨ longS nm = true
      · have hle : longE nm l = true := by
          unfold longE
          rcases h2 with h2 | h2
          · simp [h2]
          · simp [h2]
        have e : elemO ob sp nm l = (ob, 0, 2) := by unfold elemO; rw [if_neg h1, hle]; rfl
        rw [e]
        exact (refElement_many sp nm a cap l.length (by omega) hn h2).mono fun e w' ⟨h1, h2⟩ => ⟨h1, hr.upd (h2 ▸ Below.refl _ _)⟩
      · exact refElement_in hr sp nm a cap l hl (by omega) (by omega) (by cases hq : longS nm with | true => exact absurd (.inr hq) h2 | false => rfl)
  exact key.mono fun e w' ⟨h1, h2⟩ => ⟨h1, hk _ _ hsa h2⟩
theorem K2.rtext {s : ByteArray} (h : K2 w wx bA bR (dataO ob 2 s).1 ob bo O) : Calls Tryz.prog 17 #[.pointer (some ⟨bR, 0, none⟩), .string s] wx fun e w' => e = .returned (.tuple #[.int .i64 (dataO ob 2 s).2.1, .int .i64 (dataO ob 2 s).2.2]) ∧ K2 w w' bA bR (dataO ob 2 s).1 (dataO ob 2 s).1 bo O := by
  have hsa := h.simA
  obtain ⟨G, hr, hk⟩ := h.r
  exact (refText_sim hr s).mono fun e w' ⟨h1, h2⟩ => ⟨h1, hk _ _ hsa h2⟩
theorem K2.rcomment {s : ByteArray} (h : K2 w wx bA bR (dataO ob 3 s).1 ob bo O) : Calls Tryz.prog 19 #[.pointer (some ⟨bR, 0, none⟩), .string s] wx fun e w' => e = .returned (.tuple #[.int .i64 (dataO ob 3 s).2.1, .int .i64 (dataO ob 3 s).2.2]) ∧ K2 w w' bA bR (dataO ob 3 s).1 (dataO ob 3 s).1 bo O := by
  have hsa := h.simA
  obtain ⟨G, hr, hk⟩ := h.r
  exact (refComment_sim hr s).mono fun e w' ⟨h1, h2⟩ => ⟨h1, hk _ _ hsa h2⟩
theorem K2.rlink {p c b : Int} (h : K2 w wx bA bR (linkR ob p c b) ob bo O) : Calls Tryz.prog 15 #[.pointer (some ⟨bR, 0, none⟩), .int .i64 p, .int .i64 c, .int .i64 b] wx fun e w' => e = .returned (.int .i64 (linkE ob p c b)) ∧ K2 w w' bA bR (linkR ob p c b) (linkR ob p c b) bo O := by
  have hsa := h.simA
  have hh := h
  obtain ⟨_, _, _, _, _, _, _, ⟨n1, hn1⟩, _⟩ := hh
  obtain ⟨G, hr, hk⟩ := h.r
  exact (refLink_sim hr hn1 p c b).mono fun e w' ⟨h1, h2⟩ => ⟨h1, hk _ _ hsa h2⟩
end

theorem P2.beside {w wx : World} {bA bR : Nat} {oa ob : List OneM} (h : P2 w wx bA bR oa ob) (O : Obj) : K2 w (wx.alloc O) bA bR oa ob wx.heap.size O := by
  obtain ⟨hb0, ns0, F0, G0, ha0, hs0, hr0, hn0, hd0⟩ := h
  have hm : Below wx.heap.size wx (wx.alloc O) := below_new wx O
  refine ⟨hb0.trans (hm.mono hb0.size), ns0, F0, G0, ha0.mod (Mod.of_below hm) (fun _ _ e => e), hs0, hr0.below hm, hn0, hd0, heap_alloc_new wx O, fun hk => ?_, fun hk => ?_⟩
  · have := (ha0.lt hk).2; omega
  · have := (hr0.lt hk).2; omega
theorem K2.forget {w wx : World} {bA bR : Nat} {oa ob : List OneM} {bo : Nat} {O : Obj} (h : K2 w wx bA bR oa ob bo O) : P2 w wx bA bR oa ob := by
  obtain ⟨hb, ns, F, G, ha, hs, hr, hn, hd, _⟩ := h
  exact ⟨hb, ns, F, G, ha, hs, hr, hn, hd⟩
theorem K2.block {w wx : World} {bA bR : Nat} {oa ob : List OneM} {bo : Nat} {O : Obj} (h : K2 w wx bA bR oa ob bo O) : wx.heap[bo]? = some O := by
  obtain ⟨_, _, _, _, _, _, _, _, _, hO, _⟩ := h; exact hO
end Go.Proofs.YtmnmaenmoaehlaaGreatDoor
