/-
  Doctypes, fragments and comments are made, in both arenas. Plain: UTF-8 as the document takes it apart and puts it together; it comes back as it was if, and only if, it is valid. Plain: what the document takes apart and puts together again is the same if, and only if, it is valid UTF-8.
-/
import Derived.Test.YtmnmaenmoaehlaaGreatDoorSZao
import Derived.Test.YtmnmaenmoaehlaaGreatDoorSZag
import Derived.Test.YtmnmaenmoaehlaaGreatDoorSZad
import Derived.Lib.ValidLaws
import Derived.Lib.MapLaws
namespace Go.Proofs.YtmnmaenmoaehlaaGreatDoor
open Go.RowKit

def docN (name pub sys : ByteArray) : NodeM := { blankM 4 with name := name, data := pub, system := sys }

def docQ (n p s : ByteArray) : OneM := { oneM 4 with name := n, data := p, system := s }
/-- A node more, if there is room: the nodes, its number, the error. -/

def docOs (os : List OneM) (n p s : ByteArray) : List OneM × Int × Int := if longS n || longS p || longS s then (os, 0, 2) else addO os (docQ n p s)

section
variable {w : World} {base bA : Nat} {ns : List NodeM} {os : List OneM} {F : Nat → Prop}
end
section
variable {w : World} {base bR : Nat} {os : List OneM} {G : Nat → Prop}
set_option maxHeartbeats 1000000 in
theorem refComment_sim (h : RfS w base bR os G) (s : ByteArray) :
    Calls Tryz.prog 19 #[.pointer (some ⟨bR, 0, none⟩), .string s] w fun e w' => e = .returned (.tuple #[.int .i64 (dataO os 3 s).2.1, .int .i64 (dataO os 3 s).2.2]) ∧ URf G w w' base bR (dataO os 3 s).1 := by
  have hS := h
  obtain ⟨g, cap, rs, h, rfl, hG⟩ := h
  have HL := hide (refLong_any (w.alloc (.cells #[.string s] 9)) w.heap.size 1 [s] (one_cell_s w 9 s) (by simp))
  have e1 : [s].any longS = longS s := by simp
  rw [e1] at HL
  have hb : Below w.heap.size w (w.alloc (.cells #[.string s] 9)) := (Below.refl _ w).alloc (Nat.le_refl _) _
  have HC := hide (refAdd_sim (h.below hb) hG hb (bareR (dataQ 3 s)) (lists_bare _ _ _ _ _ rfl rfl rfl rfl) (dataQ 3 s) rfl (by simp [bareR, blk]))
  have HS := hide (hS.upd hb)
  unfold dataO
  generalize addO (osOf rs) (dataQ 3 s) = res at *
  clear h hG hS hb e1
  cases hl : longS s with
  | true =>
    rw [hl] at HL
    go_enter Tryz.func19, Tryz.ntmps19
    go_wp2_with (first
      | (go_at_call 37; refine (unhide HL).mono ?_; rintro e w' ⟨rfl, rfl⟩)
      | (go_at_call 38; refine (unhide HC).mono ?_; rintro e w' ⟨rfl, hu⟩))
    go_ret2
    exact ⟨rfl, unhide HS⟩
  | false =>
    rw [hl] at HL
    go_enter Tryz.func19, Tryz.ntmps19
    go_wp2_with (first
      | (go_at_call 37; refine (unhide HL).mono ?_; rintro e w' ⟨rfl, rfl⟩)
      | (go_at_call 38; refine (unhide HC).mono ?_; rintro e w' ⟨rfl, hu⟩))
    go_ret2
    exact ⟨rfl, hu⟩

end
end Go.Proofs.YtmnmaenmoaehlaaGreatDoor

namespace Go.Proofs.YtmnmaenmoaehlaaGreatDoor
open Go.Lib

/-- How many bytes a first byte wants behind it (none: it can't be one); between which the first of them lies. -/
def wantsM (c : Nat) : Option (Nat × Nat × Nat) :=
  if c < 128 then some (0, 0, 0) else if 194 ≤ c ∧ c ≤ 223 then some (1, 128, 191) else if c = 224 then some (2, 160, 191) else if c = 237 then some (2, 128, 159)
  else if 225 ≤ c ∧ c ≤ 239 then some (2, 128, 191) else if c = 240 then some (3, 144, 191) else if c = 244 then some (3, 128, 143) else if 241 ≤ c ∧ c ≤ 243 then some (3, 128, 191) else none
/-- From the i-th byte on, k of them. -/
def restU (l : List UInt8) (fin : Bool) : Nat → Nat → Nat → Nat → Nat → Nat × Nat
  | 0, i, _, _, v => (v, i)
  | k + 1, i, low, high, v => if i = l.length then (if fin = true then (65533, i) else (0, 0)) else if (l.getD i 0).toNat < low ∨ high < (l.getD i 0).toNat then (65533, i) else restU l fin k (i + 1) 128 191 (v * 64 + (l.getD i 0).toNat % 64)
/-- The first code point, and how many bytes it takes. -/
def utf8M (l : List UInt8) (fin : Bool) : Nat × Nat := match wantsM (l.getD 0 0).toNat with
  | none => (65533, 1)
  | some (n, low, high) => restU l fin n 1 low high ((l.getD 0 0).toNat % (if n = 0 then 128 else if n = 1 then 32 else if n = 2 then 16 else 8))

def badU (l : List UInt8) : Prop := (decodeL l).1 = 65533 ∧ (decodeL l).2 = 1

set_option maxHeartbeats 4000000 in
theorem utf8_ok (l : List UInt8) (hne : l ≠ []) (fin : Bool) (hb : ¬ badU l) : utf8M l fin = decodeL l := by
  have hl : 0 < l.length := List.length_pos_iff.2 hne
  unfold badU at hb
  rw [decodeL_N] at hb ⊢
  have k0 := (l.getD 0 0).toNat_lt
  have k1 := (l.getD 1 0).toNat_lt
  have k2 := (l.getD 2 0).toNat_lt
  have k3 := (l.getD 3 0).toNat_lt
  unfold utf8M
  generalize hn : l.length = n at *
  generalize h0 : (l.getD 0 0).toNat = b0 at *
  have e1 : ∀ i low high v k, restU l fin (k + 1) i low high v = if i = n then (if fin = true then (65533, i) else (0, 0)) else if (l.getD i 0).toNat < low ∨ high < (l.getD i 0).toNat then (65533, i) else restU l fin k (i + 1) 128 191 (v * 64 + (l.getD i 0).toNat % 64) := fun i low high v k => by rw [← hn]; rfl
  have e0 : ∀ i low high v, restU l fin 0 i low high v = (v, i) := fun _ _ _ _ => rfl
  unfold decodeN at hb ⊢
  by_cases c1 : b0 < 128
  · rw [if_pos c1]
    have hw : wantsM b0 = some (0, 0, 0) := by unfold wantsM; rw [if_pos c1]
    rw [hw]
    show ((b0 % 128, 1) : Nat × Nat) = (b0, 1)
    rw [Nat.mod_eq_of_lt c1]
  rw [if_neg c1] at hb ⊢
  by_cases c2 : b0 / 32 = 6 ∧ (1 < n ∧ (l.getD 1 0).toNat / 64 = 2)
  · rw [if_pos c2] at hb ⊢
    split at hb
    · rename_i c3
      rw [if_pos c3]
      have hw : wantsM b0 = some (1, 128, 191) := by unfold wantsM; rw [if_neg c1, if_pos (by omega)]
      rw [hw]
      show restU l fin 1 1 128 191 (b0 % 32) = _
      rw [e1, if_neg (by omega), if_neg (by omega), e0]
    · exact absurd ⟨rfl, rfl⟩ hb
  rw [if_neg c2] at hb ⊢
  by_cases c3 : b0 / 16 = 14 ∧ (1 < n ∧ (l.getD 1 0).toNat / 64 = 2) ∧ (2 < n ∧ (l.getD 2 0).toNat / 64 = 2)
  · rw [if_pos c3] at hb ⊢
    split at hb
    · rename_i c4
      rw [if_pos c4]
      obtain ⟨low, high, hw, hlo⟩ : ∃ low high, wantsM b0 = some (2, low, high) ∧ ¬ ((l.getD 1 0).toNat < low ∨ high < (l.getD 1 0).toNat) := by
        unfold wantsM
        rw [if_neg c1, if_neg (by omega)]
        by_cases d1 : b0 = 224
        · rw [if_pos d1]; exact ⟨160, 191, rfl, by omega⟩
        · rw [if_neg d1]
          by_cases d2 : b0 = 237
          · rw [if_pos d2]; exact ⟨128, 159, rfl, by omega⟩
          · rw [if_neg d2, if_pos (by omega)]; exact ⟨128, 191, rfl, by omega⟩
      rw [hw]
      show restU l fin 2 1 low high (b0 % 16) = _
      rw [e1, if_neg (by omega), if_neg hlo, show 1 + 1 = 2 from rfl, e1, if_neg (by omega), if_neg (by omega), e0]
      congr 1
      omega
    · exact absurd ⟨rfl, rfl⟩ hb
  rw [if_neg c3] at hb ⊢
  by_cases c4 : b0 / 8 = 30 ∧ (1 < n ∧ (l.getD 1 0).toNat / 64 = 2) ∧ (2 < n ∧ (l.getD 2 0).toNat / 64 = 2) ∧ (3 < n ∧ (l.getD 3 0).toNat / 64 = 2)
  · rw [if_pos c4] at hb ⊢
    split at hb
    · rename_i c5
      rw [if_pos c5]
      obtain ⟨low, high, hw, hlo⟩ : ∃ low high, wantsM b0 = some (3, low, high) ∧ ¬ ((l.getD 1 0).toNat < low ∨ high < (l.getD 1 0).toNat) := by
        unfold wantsM
        rw [if_neg c1, if_neg (by omega), if_neg (by omega), if_neg (by omega), if_neg (by omega)]
        by_cases d1 : b0 = 240
        · rw [if_pos d1]; exact ⟨144, 191, rfl, by omega⟩
        · rw [if_neg d1]
          by_cases d2 : b0 = 244
          · rw [if_pos d2]; exact ⟨128, 143, rfl, by omega⟩
          · rw [if_neg d2, if_pos (by omega)]; exact ⟨128, 191, rfl, by omega⟩
      rw [hw]
      show restU l fin 3 1 low high (b0 % 8) = _
      rw [e1, if_neg (by omega), if_neg hlo, show 1 + 1 = 2 from rfl, e1, if_neg (by omega), if_neg (by omega), show 2 + 1 = 3 from rfl, e1, if_neg (by omega), if_neg (by omega), e0]
      congr 1
      omega
    · exact absurd ⟨rfl, rfl⟩ hb
  rw [if_neg c4] at hb
  exact absurd ⟨rfl, rfl⟩ hb

theorem restU_bad (l : List UInt8) (fin : Bool) : ∀ (k i low high v : Nat), 0 < i → i ≤ l.length → (restU l fin k i low high v = (65533, (restU l fin k i low high v).2) ∧ 0 < (restU l fin k i low high v).2 ∧ (restU l fin k i low high v).2 ≤ l.length) ∨ (fin = false ∧ restU l fin k i low high v = (0, 0)) ∨ ((restU l fin k i low high v).2 = i + k ∧ i + k ≤ l.length ∧ ∀ j, j < k → ((j = 0 → low ≤ (l.getD (i + j) 0).toNat ∧ (l.getD (i + j) 0).toNat ≤ high) ∧ (0 < j → 128 ≤ (l.getD (i + j) 0).toNat ∧ (l.getD (i + j) 0).toNat ≤ 191)))
  | 0, i, low, high, v, h0, hi => .inr (.inr ⟨rfl, hi, fun j hj => absurd hj (Nat.not_lt_zero _)⟩)
  | k + 1, i, low, high, v, h0, hi => by
    unfold restU
    by_cases c : i = l.length
    · rw [if_pos c]
      cases fin with
      | true => exact .inl ⟨rfl, h0, hi⟩
      | false => exact .inr (.inl ⟨rfl, rfl⟩)
    · rw [if_neg c]
      by_cases d : (l.getD i 0).toNat < low ∨ high < (l.getD i 0).toNat
      · rw [if_pos d]
        exact .inl ⟨rfl, h0, hi⟩
      · rw [if_neg d]
        rcases restU_bad l fin k (i + 1) 128 191 (v * 64 + (l.getD i 0).toNat % 64) (by omega) (by omega) with h | h | ⟨h1, h2, h3⟩
        · exact .inl h
        · exact .inr (.inl h)
        · refine .inr (.inr ⟨by omega, by omega, fun j hj => ⟨fun e => by subst e; rw [Nat.add_zero]; omega, fun hp => ?_⟩⟩)
          have := h3 (j - 1) (by omega)
          rw [show i + 1 + (j - 1) = i + j by omega] at this
          by_cases e : j - 1 = 0
          · exact this.1 e
          · exact this.2 (by omega)

set_option maxHeartbeats 4000000 in
theorem utf8_bad (l : List UInt8) (hne : l ≠ []) (fin : Bool) (hb : badU l) : (utf8M l fin = (65533, (utf8M l fin).2) ∧ 0 < (utf8M l fin).2 ∧ (utf8M l fin).2 ≤ l.length) ∨ (fin = false ∧ utf8M l fin = (0, 0)) := by
  have hl : 0 < l.length := List.length_pos_iff.2 hne
  have hk : ∀ (n low high v : Nat), (∀ j, j < n → ((j = 0 → low ≤ (l.getD (1 + j) 0).toNat ∧ (l.getD (1 + j) 0).toNat ≤ high) ∧ (0 < j → 128 ≤ (l.getD (1 + j) 0).toNat ∧ (l.getD (1 + j) 0).toNat ≤ 191))) → 1 + n ≤ l.length → wantsM (l.getD 0 0).toNat = some (n, low, high) → False := by
    intro n low high v h h2 hw
    unfold badU at hb
    rw [decodeL_N] at hb
    have k0 := (l.getD 0 0).toNat_lt
    generalize h0 : (l.getD 0 0).toNat = b0 at *
    generalize hn : l.length = m at *
    unfold wantsM at hw
    unfold decodeN at hb
    split at hw
    · rename_i c
      rw [if_pos c] at hb
      have := hb.1
      simp only at this
      omega
    · rename_i c1
      rw [if_neg c1] at hb
      have g0 : 0 < n → low ≤ (l.getD 1 0).toNat ∧ (l.getD 1 0).toNat ≤ high := fun hn => (h 0 hn).1 rfl
      have g1 : 1 < n → 128 ≤ (l.getD 2 0).toNat ∧ (l.getD 2 0).toNat ≤ 191 := fun hn => (h 1 hn).2 (by omega)
      have g2 : 2 < n → 128 ≤ (l.getD 3 0).toNat ∧ (l.getD 3 0).toNat ≤ 191 := fun hn => (h 2 hn).2 (by omega)
      generalize (l.getD 1 0).toNat = b1 at *
      generalize (l.getD 2 0).toNat = b2 at *
      generalize (l.getD 3 0).toNat = b3 at *
      clear h
      split at hw
      · simp only [Option.some.injEq, Prod.mk.injEq] at hw
        obtain ⟨rfl, rfl, rfl⟩ := hw
        have := g0 (by omega)
        rw [if_pos (by omega), if_pos (by omega)] at hb
        have := hb.2
        simp at this
      · have two : n = 2 → (b0 = 224 → 160 ≤ b1) → (b0 = 237 → b1 ≤ 159) → 224 ≤ b0 → b0 ≤ 239 → 128 ≤ b1 → b1 ≤ 191 → False := by
          intro e e1 e2 e3 e4 e5 e6
          have := g1 (by omega)
          rw [if_neg (by omega), if_pos (by omega), if_pos (by omega)] at hb
          have := hb.2
          simp at this
        have three : n = 3 → (b0 = 240 → 144 ≤ b1) → (b0 = 244 → b1 ≤ 143) → 240 ≤ b0 → b0 ≤ 244 → 128 ≤ b1 → b1 ≤ 191 → False := by
          intro e e1 e2 e3 e4 e5 e6
          have := g1 (by omega)
          have := g2 (by omega)
          rw [if_neg (by omega), if_neg (by omega), if_pos (by omega), if_pos (by omega)] at hb
          have := hb.2
          simp at this
        split at hw
        · simp only [Option.some.injEq, Prod.mk.injEq] at hw
          obtain ⟨rfl, rfl, rfl⟩ := hw
          have := g0 (by omega)
          exact two rfl (by omega) (by omega) (by omega) (by omega) (by omega) (by omega)
        split at hw
        · simp only [Option.some.injEq, Prod.mk.injEq] at hw
          obtain ⟨rfl, rfl, rfl⟩ := hw
          have := g0 (by omega)
          exact two rfl (by omega) (by omega) (by omega) (by omega) (by omega) (by omega)
        split at hw
        · simp only [Option.some.injEq, Prod.mk.injEq] at hw
          obtain ⟨rfl, rfl, rfl⟩ := hw
          have := g0 (by omega)
          exact two rfl (by omega) (by omega) (by omega) (by omega) (by omega) (by omega)
        split at hw
        · simp only [Option.some.injEq, Prod.mk.injEq] at hw
          obtain ⟨rfl, rfl, rfl⟩ := hw
          have := g0 (by omega)
          exact three rfl (by omega) (by omega) (by omega) (by omega) (by omega) (by omega)
        split at hw
        · simp only [Option.some.injEq, Prod.mk.injEq] at hw
          obtain ⟨rfl, rfl, rfl⟩ := hw
          have := g0 (by omega)
          exact three rfl (by omega) (by omega) (by omega) (by omega) (by omega) (by omega)
        split at hw
        · simp only [Option.some.injEq, Prod.mk.injEq] at hw
          obtain ⟨rfl, rfl, rfl⟩ := hw
          have := g0 (by omega)
          exact three rfl (by omega) (by omega) (by omega) (by omega) (by omega) (by omega)
        · cases hw
  unfold utf8M
  cases hw : wantsM (l.getD 0 0).toNat with
  | none => exact .inl ⟨rfl, by simp, hl⟩
  | some x =>
    obtain ⟨n, low, high⟩ := x
    dsimp only
    rcases restU_bad l fin n 1 low high ((l.getD 0 0).toNat % (if n = 0 then 128 else if n = 1 then 32 else if n = 2 then 16 else 8)) (by omega) (by omega) with h | h | ⟨_, h2, h3⟩
    · exact .inl h
    · exact .inr h
    · exact (hk n low high 0 h3 h2 hw).elim
end Go.Proofs.YtmnmaenmoaehlaaGreatDoor

namespace Go.Proofs.YtmnmaenmoaehlaaGreatDoor
open Go.Lib

def takeM (fin : Bool) : Nat → List UInt8 → List Nat × List UInt8
  | 0, l => ([], l)
  | f + 1, l => if l = [] then ([], []) else if (utf8M l fin).2 = 0 then ([], l) else ((utf8M l fin).1 :: (takeM fin f (l.drop (utf8M l fin).2)).1, (takeM fin f (l.drop (utf8M l fin).2)).2)
/-- The code points of a text. -/
def textM (l : List UInt8) : List Nat := (takeM false l.length l).1 ++ (takeM true (takeM false l.length l).2.length (takeM false l.length l).2).1
/-- Code points as bytes. -/
def bytesM (rs : List Nat) : List UInt8 := rs.flatMap fun (r : Nat) => encodeRune (r : Int)
/-- A text of plain code points. -/
def plainU (l : List UInt8) : Bool := validD l && !(l.any fun b => b == 0 || b == 13)

theorem take_nil (fin : Bool) (f : Nat) : (takeM fin f []).1 = [] ∧ (takeM fin f []).2 = [] := by cases f <;> exact ⟨rfl, rfl⟩
theorem take_no {fin : Bool} {f : Nat} {l : List UInt8} (hne : l ≠ []) (h : (utf8M l fin).2 = 0) : takeM fin (f + 1) l = ([], l) := by rw [takeM, if_neg hne, if_pos h]
theorem take_step {fin : Bool} {f : Nat} {l : List UInt8} (hne : l ≠ []) (h : (utf8M l fin).2 ≠ 0) : takeM fin (f + 1) l = ((utf8M l fin).1 :: (takeM fin f (l.drop (utf8M l fin).2)).1, (takeM fin f (l.drop (utf8M l fin).2)).2) := by rw [takeM, if_neg hne, if_neg h]
theorem restU_same (l : List UInt8) : ∀ (k i low high v : Nat), restU l false k i low high v = (0, 0) ∨ restU l false k i low high v = restU l true k i low high v
  | 0, _, _, _, _ => .inr rfl
  | k + 1, i, low, high, v => by
    unfold restU
    by_cases c : i = l.length
    · rw [if_pos c]; exact .inl rfl
    · rw [if_neg c, if_neg c]
      split
      · exact .inr rfl
      · exact restU_same l k _ _ _ _
theorem utf8_same (l : List UInt8) : utf8M l false = (0, 0) ∨ utf8M l false = utf8M l true := by
  unfold utf8M
  cases wantsM (l.getD 0 0).toNat with
  | none => exact .inr rfl
  | some x => exact restU_same l _ _ _ _ _
/-- Progress, where all is there. -/
theorem utf8_pos (l : List UInt8) (hne : l ≠ []) : 0 < (utf8M l true).2 ∧ (utf8M l true).2 ≤ l.length := by
  by_cases hb : badU l
  · rcases utf8_bad l hne true hb with ⟨_, h2, h3⟩ | ⟨h, _⟩
    · exact ⟨h2, h3⟩
    · cases h
  · rw [utf8_ok l hne true hb]
    exact ⟨decodeL_width l, decodeL_le l hne⟩
theorem drop_lt (l : List UInt8) (hne : l ≠ []) : (l.drop (utf8M l true).2).length < l.length := by
  have h1 := utf8_pos l hne
  have h2 := List.length_pos_iff.2 hne
  rw [List.length_drop]
  omega
/-- A length more does not matter. -/
theorem take_more : ∀ (f g : Nat) (l : List UInt8), l.length ≤ f → l.length ≤ g → (takeM true f l).1 = (takeM true g l).1 := by
  intro f
  induction f with
  | zero =>
    intro g l hf _
    obtain rfl : l = [] := List.eq_nil_of_length_eq_zero (by omega)
    rw [(take_nil true 0).1, (take_nil true g).1]
  | succ f ih =>
    intro g l hf hg
    by_cases hne : l = []
    · subst hne
      rw [(take_nil true _).1, (take_nil true g).1]
    · cases g with
      | zero =>
        have := List.length_pos_iff.2 hne
        omega
      | succ g =>
        have hp := utf8_pos l hne
        have hd := drop_lt l hne
        rw [take_step hne (by omega), take_step hne (by omega)]
        simp only
        rw [ih g _ (by omega) (by omega)]
/-- First without an end, then with one: as with one at once. -/
theorem take_both : ∀ (f : Nat) (l : List UInt8), l.length ≤ f → (takeM false f l).1 ++ (takeM true (takeM false f l).2.length (takeM false f l).2).1 = (takeM true l.length l).1 := by
  intro f
  induction f with
  | zero =>
    intro l hf
    obtain rfl : l = [] := List.eq_nil_of_length_eq_zero (by omega)
    rfl
  | succ f ih =>
    intro l hf
    by_cases hne : l = []
    · subst hne
      rfl
    · rcases utf8_same l with h | h
      · rw [take_no hne (by rw [h])]
        rfl
      · have hp := utf8_pos l hne
        have hd := drop_lt l hne
        have hs : takeM false (f + 1) l = ((utf8M l true).1 :: (takeM false f (l.drop (utf8M l true).2)).1, (takeM false f (l.drop (utf8M l true).2)).2) := by
          rw [take_step hne (by rw [h]; omega), h]
        rw [hs]
        simp only
        rw [List.cons_append, ih _ (by omega)]
        obtain ⟨m, hm⟩ : ∃ m, l.length = m + 1 := ⟨l.length - 1, by omega⟩
        rw [hm, take_step hne (by omega)]
        simp only
        rw [take_more m (l.drop (utf8M l true).2).length (l.drop (utf8M l true).2) (by omega) (Nat.le_refl _)]
theorem textM_eq (l : List UInt8) : textM l = (takeM true l.length l).1 := take_both l.length l (Nat.le_refl _)

theorem enc_mark : encodeRune ((65533 : Nat) : Int) = [239, 191, 189] := by decide +kernel
theorem mark_good (t : List UInt8) : ¬ badU ([239, 191, 189] ++ t) := by
  unfold badU
  rw [decodeL_N]
  intro h
  have h2 := h.2
  unfold decodeN at h2
  simp at h2
/-- A zero or a return among the bytes of a code point: it is one. -/
theorem enc_zero (r : Nat) (hr : r ≤ 1114111) : ((encodeRune (r : Int)).any fun b => b == 0 || b == 13) = (r == 0 || r == 13) := by
  unfold encodeRune
  by_cases h1 : r ≤ 127
  · rw [encodeRuneZ_one (by omega) (by omega)]
    have : ∀ r : Fin 128, (([((r.val : Nat) : Int)].map fun x => x.toNat.toUInt8).any fun b => b == 0 || b == 13) = (r.val == 0 || r.val == 13) := by decide +kernel
    exact this ⟨r, by omega⟩
  · have hz : (r == 0 || r == 13) = false := by simp; omega
    rw [hz]
    have key : ∀ x ∈ encodeRuneZ (r : Int), 128 ≤ x ∧ x < 256 := by
      intro x hx
      have hb := encodeRuneZ_byte (r : Int) x hx
      refine ⟨?_, hb.2⟩
      unfold encodeRuneZ at hx
      rw [if_neg (by omega)] at hx
      split at hx
      · simp at hx; omega
      · split at hx
        · simp at hx; omega
        · split at hx
          · simp at hx; omega
          · simp at hx; omega
    rw [List.any_eq_false]
    intro b hb
    obtain ⟨x, hx, rfl⟩ := List.mem_map.1 hb
    obtain ⟨k1, k2⟩ := key x hx
    have k3 : x.toNat.toUInt8.toNat = x.toNat := by simp; omega
    simp only [Bool.or_eq_true, beq_iff_eq, not_or]
    constructor
    · intro e
      have := congrArg UInt8.toNat e
      rw [k3] at this
      simp at this
      omega
    · intro e
      have := congrArg UInt8.toNat e
      rw [k3] at this
      simp at this
      omega

theorem take_valid : ∀ (f : Nat) (l : List UInt8), l.length ≤ f → (validD l = true → bytesM (takeM true f l).1 = l ∧ ((takeM true f l).1.any fun r => r == 0 || r == 13) = (l.any fun b => b == 0 || b == 13)) ∧ (validD l = false → bytesM (takeM true f l).1 ≠ l) := by
  intro f
  induction f with
  | zero =>
    intro l hf
    obtain rfl : l = [] := List.eq_nil_of_length_eq_zero (by omega)
    exact ⟨fun _ => ⟨rfl, rfl⟩, fun h => by simp [validD, validGoD] at h⟩
  | succ f ih =>
    intro l hf
    by_cases hne : l = []
    · subst hne
      exact ⟨fun _ => ⟨rfl, rfl⟩, fun h => by simp [validD, validGoD] at h⟩
    have hp := utf8_pos l hne
    have hd := drop_lt l hne
    have hstep : takeM true (f + 1) l = ((utf8M l true).1 :: (takeM true f (l.drop (utf8M l true).2)).1, (takeM true f (l.drop (utf8M l true).2)).2) := by
      rw [takeM, if_neg hne, if_neg (by omega)]
    rw [hstep, validD_step l hne]
    simp only
    by_cases hb : badU l
    · have hb2 : (decodeL l).1 = 65533 ∧ (decodeL l).2 = 1 := hb
      rw [if_pos hb2]
      refine ⟨fun h => (by cases h), fun _ he => ?_⟩
      rcases utf8_bad l hne true hb with ⟨h1, _, _⟩ | ⟨h, _⟩
      · have h2 : (utf8M l true).1 = 65533 := by rw [h1]
        rw [h2] at he
        unfold bytesM at he
        rw [List.flatMap_cons, enc_mark] at he
        have := mark_good (((takeM true f (l.drop (utf8M l true).2)).1).flatMap fun (r : Nat) => encodeRune (r : Int))
        rw [he] at this
        exact this hb
      · cases h
    · have hb2 : ¬ ((decodeL l).1 = 65533 ∧ (decodeL l).2 = 1) := hb
      rw [if_neg hb2]
      have hu := utf8_ok l hne true hb
      have henc := encode_decode l hne hb2
      have hrl := decodeL_rune l
      rw [hu] at hd ⊢
      obtain ⟨i1, i2⟩ := ih (l.drop (decodeL l).2) (by omega)
      have hcons : ∀ rs : List Nat, bytesM ((decodeL l).1 :: rs) = l.take (decodeL l).2 ++ bytesM rs := fun rs => by
        unfold bytesM
        rw [List.flatMap_cons, henc]
      refine ⟨fun hv => ?_, fun hv he => ?_⟩
      · obtain ⟨j1, j2⟩ := i1 hv
        refine ⟨by rw [hcons, j1, List.take_append_drop], ?_⟩
        rw [List.any_cons, j2, ← enc_zero _ hrl, henc]
        conv => rhs; rw [← List.take_append_drop (decodeL l).2 l]
        rw [List.any_append]
      · rw [hcons] at he
        refine i2 hv ?_
        have h3 : l.take (decodeL l).2 ++ bytesM (takeM true f (l.drop (decodeL l).2)).1 = l.take (decodeL l).2 ++ l.drop (decodeL l).2 := by rw [he, List.take_append_drop]
        exact List.append_cancel_left h3
/-- The document's test of a text: no zero, no return, and it comes back as it was. -/
theorem plain_text (l : List UInt8) : (!((textM l).any fun r => r == 0 || r == 13) && decide (bytesM (textM l) = l)) = plainU l := by
  rw [textM_eq]
  obtain ⟨h1, h2⟩ := take_valid l.length l (Nat.le_refl _)
  unfold plainU
  cases hv : validD l with
  | true =>
    obtain ⟨k1, k2⟩ := h1 hv
    rw [k2, decide_eq_true k1]
    simp
  | false =>
    rw [decide_eq_false (h2 hv)]
    simp
end Go.Proofs.YtmnmaenmoaehlaaGreatDoor
