/-
  EditAppends: what has been built behind each number, and what is read of it.
-/
import Derived.Test.YtlbkoafeedlfaaaEa3
import Derived.Deep.RegionHeld3
import Derived.Deep.QuietTactic
import Derived.BigQuiet
namespace Go.Proofs.Ytlbkoafeedlfaaa
open Go.RowKit

/-- Bytes that came in. -/
structure BytesIn (w : World) (a : Option Addr) (l : List UInt8) : Prop where
  cells : ∀ (i : Nat) x, l[i]? = some x → ∃ b off, a = some ⟨b, off, none⟩ ∧ w.cell? ⟨b, off + i, none⟩ = some (.int .u8 (x.toNat : Int))
theorem BytesIn.below {w w' : World} {a : Option Addr} {l : List UInt8} (h : BytesIn w a l) (hb : Below w.heap.size w w') : BytesIn w' a l := ⟨fun i x hi => by
  obtain ⟨b, off, e, hc⟩ := h.cells i x hi
  exact ⟨b, off, e, (hb.cell (World.block_lt_of_cell? w _ hc)).trans hc⟩⟩

def Lits (w : World) (b : Nat) : Prop :=
  w.cell? ⟨b, 0, none⟩ = some (.string ⟨#[100, 105, 118]⟩) ∧ w.cell? ⟨b, 1, none⟩ = some (.string ⟨#[66]⟩) ∧ w.cell? ⟨b, 2, none⟩ = some (.string ⟨#[]⟩) ∧ w.cell? ⟨b, 3, none⟩ = some (.string ⟨#[120, 49]⟩) ∧ w.cell? ⟨b, 4, none⟩ = some (.string ⟨#[83, 112, 97, 110]⟩) ∧ w.cell? ⟨b, 5, none⟩ = some (.string ⟨#[]⟩)
theorem Lits.of {w w1 : World} {b : Nat} (h : Lits w b) (he : ∀ j, w1.cell? ⟨b, j, none⟩ = w.cell? ⟨b, j, none⟩) : Lits w1 b := by
  unfold Lits at h ⊢
  simp only [he]
  exact h
theorem lits_new (w : World) : Lits (w.alloc (.cells #[.string ⟨#[100, 105, 118]⟩, .string ⟨#[66]⟩, .string ⟨#[]⟩, .string ⟨#[120, 49]⟩, .string ⟨#[83, 112, 97, 110]⟩, .string ⟨#[]⟩] 9)) w.heap.size := by
  unfold Lits
  refine ⟨?_, ?_, ?_, ?_, ?_, ?_⟩
  all_goals simp

/-- What the law has built so far. -/
structure Built (w wx : World) (bA bl : Nat) (os : List OneM) (ms : List NodeM) (F : Nat → Prop) : Prop where
  ar : ArS wx w.heap.size bA ms F
  sim : Sim ms os
  below : Below w.heap.size w wx
  new : ∀ k, F k → w.heap.size ≤ k
  far : ¬ F bl
  lt : bl < wx.heap.size
  lits : Lits wx bl

theorem Built.step {w wx w' : World} {bA bl : Nat} {os os' : List OneM} {ms : List NodeM} {F : Nat → Prop} (h : Built w wx bA bl os ms F) (hu : USim F wx w' w.heap.size bA os') : ∃ ms' F', Built w w' bA bl os' ms' F' := by
  obtain ⟨ms', ⟨F', ha, hm, hF⟩, hs⟩ := hu
  refine ⟨ms', F', ha, hs, h.below.trans (hm.below h.below.size h.new), fun k hk => ?_, fun e => ?_, Nat.lt_of_lt_of_le h.lt hm.size, h.lits.of fun _ => World.cell?_of_block (hm.block bl h.lt h.far)⟩
  · rcases hF k hk with e | e
    · exact h.new k e
    · exact Nat.le_trans h.below.size e
  · rcases hF bl e with e | e
    · exact h.far e
    · have := h.lt; omega
theorem Built.more {w wx w' : World} {bA bl : Nat} {os : List OneM} {ms : List NodeM} {F : Nat → Prop} (h : Built w wx bA bl os ms F) (hb : Below wx.heap.size wx w') : Built w w' bA bl os ms F :=
  ⟨h.ar.below hb, h.sim, h.below.trans (hb.mono h.below.size), h.new, h.far, Nat.lt_of_lt_of_le h.lt hb.size, h.lits.of fun _ => World.cell?_of_block (hb.block bl h.lt)⟩

theorem osA_root (l : List UInt8) : (osA l)[1]? = some { elemQ 0 (lowS ⟨#[72, 84, 77, 76]⟩) [] with up := 0, kids := List.range' 2 l.length } := rfl

/-- The step that a number stands for. -/
theorem Built.elem {w wx : World} {bA bl : Nat} {ms : List NodeM} {F : Nat → Prop} {l : List UInt8} (h : Built w wx bA bl (osA l) ms F) (v : UInt8) (s : ByteArray) (hv : ¬ (v.toNat % 6 = 2 ∨ v.toNat % 6 = 5)) (hs : pick v = s) (hl : l.length ≤ 100) (hsz : s.size ≤ 100) (hname : ∀ W, Calls Try.prog 60 #[.string s] W fun e w' => e = .returned (.bool true) ∧ Below W.heap.size W w') (ht : isT (lowS s) = false) :
    Calls Try.prog 24 #[.pointer (some ⟨bA, 0, none⟩), .string s, .int .i64 1] wx fun e w' => (∃ x : Int, e = .returned (.tuple #[.int .i64 x, .int .i64 0])) ∧ ∃ ms' F', Built w w' bA bl (osA (l ++ [v])) ms' F' := by
  refine (addElem_in h.ar h.sim s hsz hname ht 1 _ (osA_root l) rfl (by rw [osA_len]; omega) (by decide)).mono fun e w' ⟨h1, h2⟩ => ⟨⟨_, h1⟩, ?_⟩
  have e1 : elemQ 0 (lowS s) [] = item v := by unfold item; rw [if_neg hv, hs]
  rw [e1, appO_step] at h2
  exact h.step h2
theorem Built.text {w wx : World} {bA bl : Nat} {ms : List NodeM} {F : Nat → Prop} {l : List UInt8} (h : Built w wx bA bl (osA l) ms F) (v : UInt8) (hv : v.toNat % 6 = 2 ∨ v.toNat % 6 = 5) (hl : l.length ≤ 100) :
    Calls Try.prog 25 #[.pointer (some ⟨bA, 0, none⟩), .string ⟨#[116]⟩, .int .i64 1] wx fun e w' => (∃ x : Int, e = .returned (.tuple #[.int .i64 x, .int .i64 0])) ∧ ∃ ms' F', Built w w' bA bl (osA (l ++ [v])) ms' F' := by
  refine (addText_in h.ar h.sim 1 _ (osA_root l) rfl (by rw [osA_len]; omega) (by decide)).mono fun e w' ⟨h1, h2⟩ => ⟨⟨_, h1⟩, ?_⟩
  have e1 : dataQ 2 ⟨#[116]⟩ = item v := by unfold item; rw [if_pos hv]
  rw [e1, appO_step] at h2
  exact h.step h2

theorem start_call {w : World} {base bA : Nat} {F : Nat → Prop} (h : ArS w base bA [blankM 0] F) :
    Calls Try.prog 24 #[.pointer (some ⟨bA, 0, none⟩), .string ⟨#[72, 84, 77, 76]⟩, .int .i64 0] w fun e w' => e = .returned (.tuple #[.int .i64 1, .int .i64 0]) ∧ USim F w w' base bA (osA []) := by
  have := addElem_doc h Sim.new ⟨#[72, 84, 77, 76]⟩ (by decide) elemName_html (by decide +kernel) (oneM 0) rfl rfl (by simp) rfl
  rw [appO_start] at this
  exact this

theorem take_next {l : List UInt8} {j : Nat} {v : UInt8} (h : l[j]? = some v) : l.take j ++ [v] = l.take (j + 1) := by
  have hlt : j < l.length := (List.getElem?_eq_some_iff.1 h).1
  rw [List.take_succ_eq_append_getElem hlt]
  rw [List.getElem?_eq_getElem hlt] at h
  cases h
  rfl

theorem kids_root {w W : World} {bA bl : Nat} {ms : List NodeM} {F : Nat → Prop} {l : List UInt8} (h : Built w W bA bl (osA l) ms F) (n : Nat) (hn : l.length = n) :
    Calls Try.prog 19 #[.pointer (some ⟨bA, 0, none⟩), .int .i64 1] W fun e w' => ∃ (ka : Option Addr) (kc : Nat), e = .returned (.slice ka n kc) ∧ (∀ j, j < n → ∃ g, ka = some ⟨g, 0, none⟩ ∧ w'.cell? ⟨g, j, none⟩ = some (.int .i64 ((j : Int) + 2))) ∧ Below W.heap.size W w' := by
  subst hn
  have hk : kidsO (osA l) ((1 : Nat) : Int) = List.range' 2 l.length := kidsO_of (osA_root l)
  refine (kids_sim h.ar h.sim ((1 : Nat) : Int)).mono fun e w' ⟨v, h1, h2, h3⟩ => ?_
  rw [hk, List.length_range'] at h2
  rcases h2.2 with ⟨rfl, h0⟩ | ⟨g, cap, cur, rfl, _⟩
  · exact ⟨none, 0, by rw [h1, h0], fun j hj => by omega, h3⟩
  · refine ⟨some ⟨g, 0, none⟩, cap, h1, fun j hj => ⟨g, rfl, ?_⟩, h3⟩
    rw [h2.cellAt j (by omega)]
    simp [intsV, hj]
    omega

theorem node_item {w W : World} {bA bl : Nat} {ms : List NodeM} {F : Nat → Prop} {l : List UInt8} (h : Built w W bA bl (osA l) ms F) {j : Nat} {v : UInt8} (hv : l[j]? = some v) {kd : Int} {nm dt : ByteArray} (e1 : (item v).kind = kd) (e2 : (item v).name = nm) (e3 : (item v).data = dt) :
    Calls Try.prog 18 #[.pointer (some ⟨bA, 0, none⟩), .int .i64 ((j : Int) + 2)] W fun e w' => ∃ (ao : Option Addr) (q cp : Nat) (x1 x6 x7 x8 x9 x10 x11 : Int) (x5 : ByteArray), e = .returned (.tuple #[.agg #[.int .i64 kd, .int .i64 x1, .string nm, .slice ao q cp, .string dt, .string x5, .int .i64 x6, .int .i64 x7, .int .i64 x8, .int .i64 x9, .int .i64 x10, .int .i64 x11], .int .i64 0]) ∧ Below W.heap.size W w' := by
  have ho : (osA l)[j + 2]? = some { item v with up := 1 } := by simp [osA, hv]
  obtain ⟨nd, hnd, sm⟩ := h.sim.get ho
  have hc := node_in h.ar (j + 2) nd hnd
  rw [show (((j + 2 : Nat) : Int)) = (j : Int) + 2 by omega] at hc
  refine hc.mono fun e w' ⟨ao, cp, h1, _, h2, _⟩ => ?_
  have s1 : nd.kind = kd := sm.kind.trans e1
  have s2 : nd.name = nm := sm.name.trans e2
  have s3 : nd.data = dt := sm.data.trans e3
  refine ⟨ao, nd.attrs.length, cp, nd.space, nd.parent, nd.first, nd.last, nd.prev, nd.next, nd.inner, nd.system, ?_, h2⟩
  rw [h1, ← s1, ← s2, ← s3]
  rfl

theorem item_text {v : UInt8} (h : v.toNat % 6 = 2 ∨ v.toNat % 6 = 5) : (item v).kind = 2 ∧ (item v).name = ⟨#[]⟩ ∧ (item v).data = ⟨#[116]⟩ := by unfold item; rw [if_pos h]; exact ⟨rfl, rfl, rfl⟩
theorem item_elem {v : UInt8} {s : ByteArray} (h : ¬ (v.toNat % 6 = 2 ∨ v.toNat % 6 = 5)) (hp : pick v = s) : (item v).kind = 1 ∧ (item v).name = lowS s ∧ (item v).data = ⟨#[]⟩ := by unfold item; rw [if_neg h, hp]; exact ⟨rfl, rfl, rfl⟩

theorem below_drewE {B : Nat} {a w : World} (h : Below B a w) (n : Nat) : Below B a (w.drewN n) := ⟨h.os, h.tape, h.output, h.size, h.block⟩
theorem small_below {W w7 w9 X : World} (h7 : Below W.heap.size W w7) (hX : Below X.heap.size X w9) (h : Below w7.heap.size w7 X) : Below W.heap.size W w9 := h7.trans ((h.trans (hX.mono h.size)).mono h7.size)

/-- The round's call, by what the number stands for. -/
theorem pick_cases (v : UInt8) : (v.toNat % 6 = 0 ∧ pick v = ⟨#[100, 105, 118]⟩) ∨ (v.toNat % 6 = 1 ∧ pick v = ⟨#[66]⟩) ∨ (v.toNat % 6 = 2 ∧ pick v = ⟨#[]⟩) ∨ (v.toNat % 6 = 3 ∧ pick v = ⟨#[120, 49]⟩) ∨ (v.toNat % 6 = 4 ∧ pick v = ⟨#[83, 112, 97, 110]⟩) ∨ (v.toNat % 6 = 5 ∧ pick v = ⟨#[]⟩) := by
  have h : v.toNat % 6 < 6 := Nat.mod_lt _ (by decide)
  unfold pick
  generalize v.toNat % 6 = r at h
  match r, h with
  | 0, _ => exact .inl ⟨rfl, rfl⟩
  | 1, _ => exact .inr (.inl ⟨rfl, rfl⟩)
  | 2, _ => exact .inr (.inr (.inl ⟨rfl, rfl⟩))
  | 3, _ => exact .inr (.inr (.inr (.inl ⟨rfl, rfl⟩)))
  | 4, _ => exact .inr (.inr (.inr (.inr (.inl ⟨rfl, rfl⟩))))
  | 5, _ => exact .inr (.inr (.inr (.inr (.inr ⟨rfl, rfl⟩))))

end Go.Proofs.Ytlbkoafeedlfaaa
