/-
  Package sniff's step: what a scanner does with what is next.
-/
import Derived.Test.YtmikcdmlhocgbaaDoorSp
namespace Go.Proofs.YtmikcdmlhocgbaaDoor
open Go.RowKit Go.Lib Go.Shelf
attribute [local go_sem] Oper.semAt_some

def comL : List UInt8 := [60, 33, 45, 45]
def comE : List UInt8 := [45, 45, 62]
def metaL : List UInt8 := [60, 109, 101, 116, 97]
def gapL : List UInt8 := [9, 10, 12, 13, 32, 47]
def isMeta (l : List UInt8) (k : Nat) : Bool := seesM l k metaL && amongM l (k + 5) gapL
def isTag (l : List UInt8) (k : Nat) : Bool := (seesM l k [60] && letterM l (k + 1)) || (seesM l k [60, 47] && letterM l (k + 2))
def isOdd (l : List UInt8) (k : Nat) : Bool := seesM l k [60, 33] || (seesM l k [60, 47] || seesM l k [60, 63])
/-- What a step tells, and where it ends. -/
def stepM (l : List UInt8) (k : Nat) : (Int × Bool) × Nat :=
  if seesM l k comL then ((0, false), behindM comE l (k + 2))
  else if isMeta l k then (toldM (stC (attrsM l (k + 5)).1).1, (attrsM l (k + 5)).2)
  else if isTag l k then ((0, false), (attrsM l (passP wordP l k)).2)
  else if isOdd l k then ((0, false), behindM [62] l k)
  else ((0, false), k + 1)

section
variable {w : World} {b k : Nat} {t : ByteArray}
structure Asks (b k : Nat) (t : ByteArray) (S : ByteArray → Bool) (A : Bool) (L : Int → Bool) : Prop where
  sees : ∀ W x, Sc W b t k → 0 < x.size → x.size ≤ 100 → Calls Tryd.prog 32 #[.pointer (some ⟨b, 0, none⟩), .string x] W fun e w' => e = .returned (.bool (S x)) ∧ ∃ n, w' = W.drewN n
  among : ∀ W, Sc W b t k → Calls Tryd.prog 40 #[.pointer (some ⟨b, 0, none⟩), .int .i64 5, .string ⟨#[9, 10, 12, 13, 32, 47]⟩] W fun e w' => e = .returned (.bool A) ∧ w' = W
  letter : ∀ W (on : Int), (on = 1 ∨ on = 2) → Sc W b t k → Calls Tryd.prog 42 #[.pointer (some ⟨b, 0, none⟩), .int .i64 on] W fun e w' => e = .returned (.bool (L on)) ∧ w' = W
theorem asks (hk : k ≤ t.size) (hs : Small t) : Asks b k t (fun x => seesM t.data.toList k x.data.toList) (amongM t.data.toList (k + 5) gapL) (fun on => letterM t.data.toList (k + on.toNat)) :=
  ⟨fun W x h h0 h1 => sees_any h hk hs x h0 h1, fun W h => among_any h 5 ⟨#[9, 10, 12, 13, 32, 47]⟩ (by unfold Small at hs; omega), fun W on ho h => ho.elim (fun e => e ▸ letter_any h 1 hk hs (by omega)) (fun e => e ▸ letter_any h 2 hk hs (by omega))⟩

theorem gone_set {m q : Nat} {v : Value} {w2 : World} (hg : Gone ((w.drewN m).setCell ⟨b, 1, none⟩ v) w2 b t q) : Gone w w2 b t q := ⟨hg.sc, ((Mod.of_below (below_dr w m)).trans (Mod.setCell (F := fun x => x = b) _ ⟨b, 1, none⟩ _ rfl)).trans hg.mod⟩
theorem gone_dn {m q : Nat} {w2 : World} (hg : Gone (w.drewN m) w2 b t q) : Gone w w2 b t q := ⟨hg.sc, (Mod.of_below (below_dr w m)).trans hg.mod⟩

theorem tag_loop {Q : Exit → Act → World → Prop} {T : Array Value} {W : World} {k0 : Nat} (hs : Small t) (hsc : Sc W b t k0) (hk0 : k0 ≤ t.size)
    (hg : (⟨T, []⟩ : Act).eval (.tmp 59) = .func (.func 44) #[.pointer (some ⟨b, 0, none⟩)] #[])
    (hdone : ∀ (D : Nat) (W' : World), W.heap.size ≤ D → Gone W W' b t (attrsM t.data.toList k0).2 → W'.heap[D]? = some (.deferred (some [])) → Q .normal ⟨T, [{ target := .collected D, args := #[] }]⟩ W') :
    (Code.rangeFunc (.tmp 59) #[60, 61] Code.skip (Code.block 2 Code.skip)).wpIn Fence.wide 4 Tryd.prog Q ⟨T, []⟩ W := by
  have hbw := hsc.lt
  refine wpIn_rangeBound rfl (by omega) (gf := 44) (rv := .pointer (some ⟨b, 0, none⟩)) hg trivial (enters_of Tryd.func44 (by kernel_rfl) rfl) (encs := encsA) (fun _ => rfl) (b := b) hbw (xs := (attrsM t.data.toList k0).1) (E := fun W => Sc W b t (attrsM t.data.toList k0).2) (A := fun x => ∃ k k', attrM t.data.toList k = (some x, k')) (N := t.size + 1)
    (fun l J W1 _ hB hJm hY h0 => attributes_in (4 - 1) (by omega) l b t hs k0 hk0 J hJm hY W1 (by unfold Sc; rw [hB.block b hbw]; exact hsc) h0)
    (fun _ W' => Mod (· = b) W W') (fun pre A B h hm => h.trans hm)
    (fun pre W1 l o hl _ h => ⟨h.os, h.tape, h.output, Nat.le_trans h.size (by simp [World.putObj]), fun k h1 h2 => (World.putObj_heap_other (by omega)).trans (h.block k h1 h2)⟩)
    (fun W1 l o hl h => by unfold Sc; rw [World.putObj_heap_other (by omega)]; exact h) (Mod.refl _ _)
    (fun x => { tmps := ((#[60, 61] : Array Tmp).zip (encsA x)).foldl (fun t (p, v) => t.setIfInBounds p v) T, defers := [] }) ?assign ?body ?done
  case assign =>
    intro l x W1 K hK
    gi_step
    exact hK
  case body =>
    intro l pre x W1 _ _ hI _
    gi_step
    gi_step
    exact ⟨rfl, KeepsFrom.refl _ _, rfl, hI⟩
  case done =>
    intro D W' hD hI hE hK
    exact hdone D W' hD ⟨hE, hI⟩ hK

set_option maxHeartbeats 2000000 in
theorem step_com (h : Sc w b t k) (hk : k ≤ t.size) (hs : Small t) (h1 : seesM t.data.toList k comL = true) :
    Calls Tryd.prog 21 #[.pointer (some ⟨b, 0, none⟩)] w fun e w' => e = .returned (.tuple #[.int .i64 0, .bool false]) ∧ Gone w w' b t (behindM comE t.data.toList (k + 2)) := by
  obtain ⟨c0, c1, cf⟩ := h.cells
  have cf1 := cf 1
  have hfit := sees_fits h1 (by decide)
  have e4 : comL.length = 4 := rfl
  rw [len_data, e4] at hfit
  have hw : IntKind.i64.wrap ((k : Int) + 2) = (k : Int) + 2 := by unfold Small at hs; exact wrap_add k 2 (by omega) (by omega)
  obtain ⟨S, A, L, hA, hS⟩ : ∃ S A L, Asks b k t S A L ∧ S ⟨#[60, 33, 45, 45]⟩ = true := ⟨_, _, _, asks hk hs, h1⟩
  have HA := hide hA
  have HSC := hide h
  have HF : Hid (∀ W, Sc W b t k → Calls Tryd.prog 39 #[.pointer (some ⟨b, 0, none⟩), .string ⟨#[45, 45, 62]⟩] (W.setCell ⟨b, 1, none⟩ (.int .i64 ((k : Int) + 2))) fun e w' => e = .returned (.tuple #[]) ∧ Gone (W.setCell ⟨b, 1, none⟩ (.int .i64 ((k : Int) + 2))) w' b t (behindM comE t.data.toList (k + 2))) :=
    hide (fun W hW => findBehind_any (hW.set (k + 2)) (by omega) hs ⟨#[45, 45, 62]⟩ (by decide) (by decide))
  generalize behindM comE t.data.toList (k + 2) = q at HF ⊢
  clear h hk hs h1 cf hfit e4 hA
  go_enter Tryd.func21, Tryd.ntmps21
  go_wp2_with (first
      | (go_at_call 32; refine ((unhide HA).sees _ _ (by exact unhide HSC) (by decide) (by decide)).mono ?_; rintro e w1 ⟨rfl, m, rfl⟩)
      | (go_at_call 40; refine ((unhide HA).among _ (by exact unhide HSC)).mono ?_; rintro e w1 ⟨rfl, rfl⟩)
      | (go_at_call 42; refine ((unhide HA).letter _ _ (by decide) (by exact unhide HSC)).mono ?_; rintro e w1 ⟨rfl, rfl⟩)
      | (go_at_call 39; refine ((unhide HF) _ (by exact unhide HSC)).mono ?_; rintro e w2 ⟨rfl, hg⟩))
  go_ret2
  exact ⟨rfl, gone_set hg⟩
end
end Go.Proofs.YtmikcdmlhocgbaaDoor
