/-
  NodeAttrs: the walk where the element is refused.
-/
import Derived.Test.YtfbdgcnijoninaaLaw9
import Derived.Deep.QuietTactic
import Derived.BigQuiet
namespace Go.Proofs.Ytfbdgcnijoninaa
open Go.RowKit

theorem new_some (w : World) (base : Nat) (h : base ≤ w.heap.size) : Calls Try.prog 11 #[] w fun e w' => ∃ F bA, e = .returned (.pointer (some ⟨bA, 0, none⟩)) ∧ ArS w' base bA [blankM 0] F ∧ Below w.heap.size w w' ∧ ∀ k, F k → w.heap.size ≤ k :=
  (new_any w base h).mono fun _ _ ⟨F, h1, h2, h3, h4⟩ => ⟨F, _, h1, h2, h3, h4⟩

theorem pname : isT ⟨#[112]⟩ = false := by decide +kernel

set_option maxHeartbeats 1000000 in
theorem attrs_err {w : World} (a : Option Addr) (cap : Nat) (l : List AttrM) (hl : AttrsIn w a l) (hn : l.length ≤ maxLen) (x : AttrM) (hlong : longE ⟨#[112]⟩ l = true) :
    Calls Try.prog 9 #[.slice a l.length cap, x.agg] w fun e w' => e = .returned (.bool true) ∧ Below w.heap.size w w' := by
  have hb0 := (Below.refl _ w).alloc (Nat.le_refl _) (.cells #[.int .i64 x.space, .string x.pre, .string x.name, .string x.val] 29)
  have HN := hide (new_some (w.alloc (.cells #[.int .i64 x.space, .string x.pre, .string x.name, .string x.val] 29)) w.heap.size (by simp))
  have HC := hide (fun (w1 : World) base bA F (h1 : ArS w1 base bA [blankM 0] F) (hl1 : AttrsIn w1 a l) => element_long h1 0 ⟨#[112]⟩ a cap l hl1 hn (by omega) hlong)
  have HL := hide hl
  have HB0 := hide hb0
  clear hl hlong hb0
  unfold AttrM.agg
  set_option maxRecDepth 10000 in go_enter Try.func9, Try.ntmps9
  go_wp2_with fail
  refine (unhide HN).mono ?_
  rintro e w1 ⟨F, bA, rfl, h1, hb1, hF⟩
  have hb1' := (unhide HB0).trans (hb1.mono (unhide HB0).size)
  have HC1 := hide ((unhide HC) w1 _ _ F h1 ((unhide HL).below hb1'))
  have HB1 := hide hb1'
  clear h1 hb1 hb1'
  go_wp2_with fail
  refine (unhide HC1).mono ?_
  rintro e w2 ⟨rfl, hb2⟩
  have HB2 := hide ((unhide HB1).trans (hb2.mono (unhide HB1).size))
  clear hb2
  go_wp2_with (go_at_call 17; refine (awake_any _).mono ?_; rintro e w3 ⟨rfl, hb3⟩)
  go_ret
  exact ⟨rfl, (unhide HB2).trans (hb3.mono (unhide HB2).size)⟩

/-- The argument's own place. -/
def boxO (x : AttrM) : Obj := .cells #[.int .i64 x.space, .string x.pre, .string x.name, .string x.val] 29

theorem box_cells {w W : World} {x : AttrM} (h : Below (w.heap.size + 1) (w.alloc (boxO x)) W) :
    W.cell? ⟨w.heap.size, 0, none⟩ = some (.int .i64 x.space) ∧ W.cell? ⟨w.heap.size, 1, none⟩ = some (.string x.pre) ∧ W.cell? ⟨w.heap.size, 2, none⟩ = some (.string x.name) ∧ W.cell? ⟨w.heap.size, 3, none⟩ = some (.string x.val) := by
  have k : ∀ o, W.cell? ⟨w.heap.size, o, none⟩ = (w.alloc (boxO x)).cell? ⟨w.heap.size, o, none⟩ := fun o => h.cell (p := ⟨w.heap.size, o, none⟩) (by simp)
  rw [k, k, k, k]; simp [boxO]

/-- The law's world: the argument in its place, an arena whose element has the attributes L, all its blocks behind the argument's and ahead of B. -/
structure St (w : World) (x : AttrM) (W : World) (bA : Nat) (L : List AttrM) (B : Nat) : Prop where
  bel : Below (w.heap.size + 1) (w.alloc (boxO x)) W
  one : ∃ F, One W (w.heap.size + 1) bA L F ∧ ∀ k, F k → w.heap.size + 1 ≤ k ∧ k < B

theorem One.lt {w : World} {b0 bA : Nat} {l : List AttrM} {F : Nat → Prop} (h : One w b0 bA l F) {k : Nat} (hk : F k) : k < w.heap.size := by
  obtain ⟨ns, n, h1, _⟩ := h
  exact (h1.lt hk).2

theorem St.size {w W : World} {x : AttrM} {bA B : Nat} {L : List AttrM} (h : St w x W bA L B) : w.heap.size + 1 ≤ W.heap.size := by
  have := h.bel.size; simpa using this

theorem St.out {w W : World} {x : AttrM} {bA B : Nat} {L : List AttrM} (h : St w x W bA L B) : Below w.heap.size w W :=
  ((Below.refl _ w).alloc (Nat.le_refl _) (boxO x)).trans (h.bel.mono (by omega))

theorem St.below {w W W' : World} {x : AttrM} {bA B : Nat} {L : List AttrM} (h : St w x W bA L B) (hb : Below W.heap.size W W') : St w x W' bA L B := by
  obtain ⟨F, h1, h2⟩ := h.one
  exact ⟨h.bel.trans (hb.mono h.size), F, h1.below hb, h2⟩

theorem St.upd {w W W' : World} {x : AttrM} {bA B : Nat} {L' : List AttrM} (hb : Below (w.heap.size + 1) (w.alloc (boxO x)) W) {F : Nat → Prop} (hF : ∀ k, F k → w.heap.size + 1 ≤ k ∧ k < B) (hu : OneUpd F W W' (w.heap.size + 1) bA L') :
    St w x W' bA L' W'.heap.size ∧ ∀ k, B ≤ k → k < W.heap.size → W'.heap[k]? = W.heap[k]? := by
  obtain ⟨F', h1, h2, h3⟩ := hu
  have hs : w.heap.size + 1 ≤ W.heap.size := by have := hb.size; simpa using this
  refine ⟨⟨hb.trans (h2.below hs (fun k hk => (hF k hk).1)), F', h1, fun k hk => ⟨(h3 k hk).elim (fun h => (hF k h).1) (fun h => by omega), h1.lt hk⟩⟩, fun k hk hlt => h2.block k hlt (fun hf => ?_)⟩
  have := (hF k hf).2; omega

theorem st_set {w W : World} {x : AttrM} {bA B : Nat} {l : List AttrM} (h : St w x W bA l B) (A : Nat) (hA : IsAt (sameKey x.space x.name) l 0 A) (hl : l.length ≤ 1024) (hAl : A ≤ l.length) :
    Calls Try.prog 29 #[.pointer (some ⟨bA, 0, none⟩), .int .i64 1, x.agg] W fun e w' =>
      (e = .returned (.int .i64 2) ∧ St w x w' bA l w'.heap.size) ∨ (e = .returned (.int .i64 0) ∧ ∃ L, SetOk l x A L ∧ St w x w' bA L w'.heap.size) := by
  obtain ⟨F, h1, h2⟩ := h.one
  refine (one_set h1 x A hA hl hAl).mono fun e w' hr => ?_
  rcases hr with ⟨he, hu⟩ | ⟨he, L, hs, hu⟩
  · exact .inl ⟨he, (St.upd h.bel h2 hu).1⟩
  · exact .inr ⟨he, L, hs, (St.upd h.bel h2 hu).1⟩

theorem st_del {w W : World} {x : AttrM} {bA B : Nat} {l L : List AttrM} (h : St w x W bA L B) {A : Nat} (hs : SetOk l x A L) :
    Calls Try.prog 30 #[.pointer (some ⟨bA, 0, none⟩), .int .i64 1, .int .i64 x.space, .string x.name] W fun e w' =>
      e = .returned (.int .i64 0) ∧ St w x w' bA (L.eraseIdx A) w'.heap.size ∧ ∀ k, B ≤ k → k < W.heap.size → w'.heap[k]? = W.heap[k]? := by
  obtain ⟨F, h1, h2⟩ := h.one
  exact (one_del h1 hs).mono fun e w' ⟨he, hu⟩ => ⟨he, St.upd h.bel h2 hu⟩

theorem st_node {w W : World} {x : AttrM} {bA B : Nat} {L : List AttrM} (h : St w x W bA L B) :
    Calls Try.prog 19 #[.pointer (some ⟨bA, 0, none⟩), .int .i64 1] W fun e w' => ∃ n ao cp, e = .returned (.tuple #[nodeV n (.slice ao L.length cp), .int .i64 0]) ∧ St w x w' bA L B ∧ Below W.heap.size W w' ∧
      AttrsIn w' ao L ∧ ∀ b off, ao = some ⟨b, off, none⟩ → W.heap.size ≤ b := by
  obtain ⟨F, h1, h2⟩ := h.one
  refine (one_node h1).mono fun e w' ⟨n, ao, cp, he, ho, hb, hf⟩ => ⟨n, ao, cp, he, h.below hb, hb, ?_, ?_⟩
  · obtain ⟨a, c, hv, hin⟩ := ownsRow_attrs ho
    injection hv with hv _ _
    exact hv ▸ hin
  · rintro b off rfl
    exact hf b rfl

/-- Where nothing of its block is written a list is read as before. -/
theorem AttrsIn.kept {w w' : World} {a : Option Addr} {l : List AttrM} (h : AttrsIn w a l) (hk : ∀ b off, a = some ⟨b, off, none⟩ → b < w.heap.size → w'.heap[b]? = w.heap[b]?) : AttrsIn w' a l := by
  refine ⟨fun i x hi => ?_⟩
  obtain ⟨b, off, e, c0, c1, c2, c3⟩ := h.cells i x hi
  have hlt : b < w.heap.size := World.block_lt_of_cell? w _ c0
  have hs := hk b off e hlt
  have k : ∀ o, w'.cell? ⟨b, o, none⟩ = w.cell? ⟨b, o, none⟩ := fun o => by simp only [World.cell?, hs]
  exact ⟨b, off, e, (k _).trans c0, (k _).trans c1, (k _).trans c2, (k _).trans c3⟩
end Go.Proofs.Ytfbdgcnijoninaa
