/-
  A text escaped, plainly: what the document says of Escape; what a code point of the text adds to it. Package write's tables of names, Void and Plain, the program's and the document's; that the program answers at all.
-/
import Derived.Test.YtmnmaenmoaehlaaGreatDoorRows
import Derived.WalkKit
import Derived.WalkSpells
import Derived.WalkLawsBesides
import Derived.WalkMore
import Derived.Laws.RangeAny
import Derived.Deep.LoopGhost
import Derived.Deep.QuietTactic
import Derived.BigQuiet
import Derived.Lib.OthersKept
namespace Go.Proofs.YtmnmaenmoaehlaaGreatDoor

def ampL : List UInt8 := [38, 97, 109, 112, 59]
def nbspL : List UInt8 := [38, 110, 98, 115, 112, 59]
def quotL : List UInt8 := [38, 113, 117, 111, 116, 59]
def ltL : List UInt8 := [38, 108, 116, 59]
def gtL : List UInt8 := [38, 103, 116, 59]

/-- What a byte that is no part of C2 A0 becomes. -/
def oneL (attr : Bool) (c : UInt8) : List UInt8 :=
  if c = 38 then ampL else if c = 34 then (if attr then quotL else [c]) else if c = 60 then (if attr then [c] else ltL) else if c = 62 then (if attr then [c] else gtL) else [c]

/-- A text escaped. -/
def escL (attr : Bool) : List UInt8 → List UInt8
  | [] => []
  | [c] => oneL attr c
  | c :: d :: t => if c = 194 ∧ d = 160 then nbspL ++ escL attr t else oneL attr c ++ escL attr (d :: t)

/-- What stands for a code point. -/
def wordL (attr : Bool) (r : Int) : List UInt8 :=
  if r = 38 then ampL else if r = 160 then nbspL else if r = 34 then (if attr then quotL else []) else if r = 60 then (if attr then [] else ltL) else if r = 62 then (if attr then [] else gtL) else []

theorem esc_one (attr : Bool) (c : UInt8) (t : List UInt8) (h : ¬ (c = 194 ∧ t[0]? = some 160)) : escL attr (c :: t) = oneL attr c ++ escL attr t := by
  cases t with
  | nil => simp [escL]
  | cons d t =>
    rw [escL, if_neg]
    intro e
    exact h ⟨e.1, by simp [e.2]⟩
theorem esc_two (attr : Bool) (t : List UInt8) : escL attr (194 :: 160 :: t) = nbspL ++ escL attr t := by
  rw [escL, if_pos ⟨rfl, rfl⟩]
theorem one_high (attr : Bool) (c : UInt8) (h : 128 ≤ c.toNat) : oneL attr c = [c] := by
  have h1 : ¬ c = 38 := by intro e; subst e; revert h; decide
  have h2 : ¬ c = 34 := by intro e; subst e; revert h; decide
  have h3 : ¬ c = 60 := by intro e; subst e; revert h; decide
  have h4 : ¬ c = 62 := by intro e; subst e; revert h; decide
  unfold oneL
  rw [if_neg h1, if_neg h2, if_neg h3, if_neg h4]
theorem esc_high (attr : Bool) (c : UInt8) (t : List UInt8) (hc : 128 ≤ c.toNat) (h : ¬ (c = 194 ∧ t[0]? = some 160)) : escL attr (c :: t) = c :: escL attr t := by
  rw [esc_one attr c t h, one_high attr c hc]; rfl
theorem esc_cont (attr : Bool) (c : UInt8) (t : List UInt8) (hc : c.toNat / 64 = 2) : escL attr (c :: t) = c :: escL attr t :=
  esc_high attr c t (by omega) (by intro e; rw [e.1] at hc; revert hc; decide)
theorem word_high (attr : Bool) (r : Nat) (h : 128 ≤ r) (h2 : r ≠ 160) : wordL attr (r : Int) = [] := by
  unfold wordL
  rw [if_neg (by omega), if_neg (by omega), if_neg (by omega), if_neg (by omega), if_neg (by omega)]
theorem nat_u8 {c : UInt8} {n : Nat} (hn : n < 256) (h : c.toNat = n) : c = UInt8.ofNat n := by
  apply UInt8.toNat_inj.1; rw [h]; simp [UInt8.toNat_ofNat', Nat.mod_eq_of_lt hn]
theorem one_ascii (attr : Bool) (c : UInt8) (h : c.toNat < 128) : oneL attr c = if wordL attr (c.toNat : Int) = [] then [c] else wordL attr (c.toNat : Int) := by
  have e : ∀ k : UInt8, ¬ c = k → ¬ (c.toNat : Int) = (k.toNat : Int) := fun k hk h => hk (UInt8.toNat_inj.1 (by omega))
  by_cases h1 : c = 38
  · subst h1; cases attr <;> decide
  · by_cases h2 : c = 34
    · subst h2; cases attr <;> decide
    · by_cases h3 : c = 60
      · subst h3; cases attr <;> decide
      · by_cases h4 : c = 62
        · subst h4; cases attr <;> decide
        · have k1 : ¬ (c.toNat : Int) = 38 := e 38 h1
          have k2 : ¬ (c.toNat : Int) = 34 := e 34 h2
          have k3 : ¬ (c.toNat : Int) = 60 := e 60 h3
          have k4 : ¬ (c.toNat : Int) = 62 := e 62 h4
          have k5 : ¬ (c.toNat : Int) = 160 := by omega
          have e1 : oneL attr c = [c] := by unfold oneL; rw [if_neg h1, if_neg h2, if_neg h3, if_neg h4]
          have e2 : wordL attr (c.toNat : Int) = [] := by unfold wordL; rw [if_neg k1, if_neg k5, if_neg k2, if_neg k3, if_neg k4]
          rw [e1, e2, if_pos rfl]

/-- How many bytes a code point that has a word has. -/
def wideN (r : Int) : Nat := if r = 160 then 2 else 1

/-- A step over the text by a code point r of q bytes at its front. -/
structure StepR (attr : Bool) (l : List UInt8) (r : Int) (q : Nat) : Prop where
  pos : 1 ≤ q
  le : q ≤ l.length
  word : wordL attr r ≠ [] → q = wideN r ∧ escL attr l = wordL attr r ++ escL attr (l.drop q)
  same : wordL attr r = [] → escL attr l = l.take q ++ escL attr (l.drop q)

theorem step_bad (attr : Bool) (c : UInt8) (t : List UInt8) (hc : 128 ≤ c.toNat) (h : ¬ (c = 194 ∧ t[0]? = some 160)) : StepR attr (c :: t) (65533 : Nat) 1 := by
  refine ⟨Nat.le_refl _, by simp, fun hw => absurd (word_high attr 65533 (by omega) (by omega)) hw, fun _ => ?_⟩
  rw [esc_high attr c t hc h]; rfl

theorem get_list (s : ByteArray) (i : Nat) : s.get! i = s.data.toList.getD i 0 := by
  show s.data[i]! = _
  rw [List.getD_eq_getElem?_getD, Array.getElem?_toList]
  rcases Nat.lt_or_ge i s.data.size with h | h
  · rw [Array.getElem?_eq_getElem h, getElem!_pos s.data i h]; rfl
  · rw [Array.getElem?_eq_none h, getElem!_neg s.data i (Nat.not_lt.2 h)]; rfl
theorem getD_drop' (l : List UInt8) (i k : Nat) : l.getD (i + k) 0 = (l.drop i).getD k 0 := by
  simp [List.getD_eq_getElem?_getD, List.getElem?_drop]

set_option maxHeartbeats 2000000 in
theorem decode_step (attr : Bool) (s : ByteArray) (i : Nat) (hi : i < s.size) : StepR attr (s.data.toList.drop i) ((Utf8.decode s i).1 : Nat) (Utf8.decode s i).2 := by
  obtain ⟨l, hl⟩ : ∃ l, s.data.toList.drop i = l := ⟨_, rfl⟩
  have hn : s.size = s.data.toList.length := by show s.data.size = _; simp
  have hlen : l.length = s.size - i := by rw [← hl, List.length_drop, hn]
  have c1 : (i + 1 < s.size) = (1 < l.length) := propext ⟨fun h => by omega, fun h => by omega⟩
  have c2 : (i + 2 < s.size) = (2 < l.length) := propext ⟨fun h => by omega, fun h => by omega⟩
  have c3 : (i + 3 < s.size) = (3 < l.length) := propext ⟨fun h => by omega, fun h => by omega⟩
  have g : ∀ k, s.get! (i + k) = l.getD k 0 := fun k => by rw [get_list, getD_drop', hl]
  rw [hl]
  clear hl
  simp only [Utf8.decode, Utf8.valid, Utf8.runeError, Bool.and_eq_true, Bool.or_eq_true, beq_iff_eq, decide_eq_true_eq, c1, c2, c3, ge_iff_le, g]
  clear c1 c2 c3 g
  match l with
  | [] => simp at hlen; omega
  | c :: t =>
    clear hlen
    have hd0 : (c :: t).getD 0 0 = c := rfl
    rw [hd0]
    have hlt := c.toNat_lt
    by_cases h0 : c.toNat < 128
    · rw [if_pos h0]
      have hne : ¬ (c = 194 ∧ t[0]? = some 160) := by intro e; rw [e.1] at h0; revert h0; decide
      refine ⟨Nat.le_refl _, by simp, fun hw => ?_, fun hw => ?_⟩
      · refine ⟨?_, ?_⟩
        · unfold wideN; rw [if_neg (by show ¬ (c.toNat : Int) = 160; omega)]
        · rw [esc_one attr c t hne, one_ascii attr c h0, if_neg hw]; rfl
      · rw [esc_one attr c t hne, one_ascii attr c h0, if_pos hw]; rfl
    · rw [if_neg h0]
      have hc : 128 ≤ c.toNat := by omega
      by_cases h1 : c.toNat / 32 = 6 ∧ 1 < (c :: t).length ∧ ((c :: t).getD 1 0).toNat / 64 = 2
      · rw [if_pos h1]
        match t, h1 with
        | [], h1 => simp at h1
        | d :: t, ⟨a1, _, a2⟩ =>
          have e1 : (c :: d :: t).getD 1 0 = d := rfl
          rw [e1] at a2 ⊢
          have hdlt := d.toNat_lt
          by_cases h2 : 128 ≤ c.toNat % 32 * 64 + d.toNat % 64
          · rw [if_pos h2]
            by_cases h3 : c.toNat % 32 * 64 + d.toNat % 64 = 160
            · have ec : c = 194 := nat_u8 (n := 194) (by omega) (by omega)
              have ed : d = 160 := nat_u8 (n := 160) (by omega) (by omega)
              subst ec ed
              refine ⟨by decide, by simp, fun _ => ⟨by decide, ?_⟩, fun hw => ?_⟩
              · exact esc_two attr t
              · exact absurd hw (by cases attr <;> decide)
            · refine ⟨by show 1 ≤ 2; omega, by simp, fun hw => absurd (word_high attr _ h2 h3) hw, fun _ => ?_⟩
              rw [esc_high attr c (d :: t) hc (by
                intro e
                have e2 : d = 160 := by simpa using e.2
                apply h3; rw [e.1, e2]; decide), esc_cont attr d t a2]
              rfl
          · rw [if_neg h2]
            exact step_bad attr c (d :: t) hc (by intro e; rw [e.1] at h2; apply h2; have e2 : (194 : UInt8).toNat % 32 = 2 := rfl; omega)
      · rw [if_neg h1]
        have hne : ¬ (c = 194 ∧ t[0]? = some 160) := by
          intro e
          apply h1
          cases t with
          | nil => simp at e
          | cons d t =>
            have e2 : d = 160 := by simpa using e.2
            rw [e.1, e2]
            refine ⟨by decide, by simp, ?_⟩
            show (160 : UInt8).toNat / 64 = 2
            decide
        by_cases h2 : c.toNat / 16 = 14 ∧ (1 < (c :: t).length ∧ ((c :: t).getD 1 0).toNat / 64 = 2) ∧ 2 < (c :: t).length ∧ ((c :: t).getD 2 0).toNat / 64 = 2
        · have h2' : (c.toNat / 16 = 14 ∧ 1 < (c :: t).length ∧ ((c :: t).getD 1 0).toNat / 64 = 2) ∧ 2 < (c :: t).length ∧ ((c :: t).getD 2 0).toNat / 64 = 2 := ⟨⟨h2.1, h2.2.1⟩, h2.2.2⟩
          rw [if_pos h2']
          match t, h2 with
          | [], h2 => simp at h2
          | [d], h2 => simp at h2
          | d :: f :: t, ⟨a1, ⟨_, a2⟩, _, a3⟩ =>
            have e1 : (c :: d :: f :: t).getD 1 0 = d := rfl
            have e2 : (c :: d :: f :: t).getD 2 0 = f := rfl
            rw [e1] at a2
            rw [e2] at a3
            rw [e1, e2]
            split
            · rename_i h4
              refine ⟨by show 1 ≤ 3; omega, by simp, fun hw => absurd (word_high attr _ (by omega) (by omega)) hw, fun _ => ?_⟩
              rw [esc_high attr c _ hc hne, esc_cont attr d _ a2, esc_cont attr f _ a3]
              rfl
            · exact step_bad attr c _ hc hne
        · have h2' : ¬ ((c.toNat / 16 = 14 ∧ 1 < (c :: t).length ∧ ((c :: t).getD 1 0).toNat / 64 = 2) ∧ 2 < (c :: t).length ∧ ((c :: t).getD 2 0).toNat / 64 = 2) := fun e => h2 ⟨e.1.1, e.1.2, e.2⟩
          rw [if_neg h2']
          split
          · rename_i h5
            match t, h5 with
            | [], h5 => simp at h5
            | [d], h5 => simp at h5
            | [d, f], h5 => simp at h5
            | d :: f :: p :: t, ⟨⟨⟨a1, _, a2⟩, _, a3⟩, _, a4⟩ =>
              have e1 : (c :: d :: f :: p :: t).getD 1 0 = d := rfl
              have e2 : (c :: d :: f :: p :: t).getD 2 0 = f := rfl
              have e3 : (c :: d :: f :: p :: t).getD 3 0 = p := rfl
              rw [e1] at a2
              rw [e2] at a3
              rw [e3] at a4
              rw [e1, e2, e3]
              split
              · refine ⟨by show 1 ≤ 4; omega, by simp, fun hw => absurd (word_high attr _ (by omega) (by omega)) hw, fun _ => ?_⟩
                rw [esc_high attr c _ hc hne, esc_cont attr d _ a2, esc_cont attr f _ a3, esc_cont attr p _ a4]
                rfl
              · exact step_bad attr c _ hc hne
          · exact step_bad attr c t hc hne
end Go.Proofs.YtmnmaenmoaehlaaGreatDoor

namespace Go.Proofs.YtmnmaenmoaehlaaGreatDoor
open Go.RowKit Go.Lib

theorem hidE {p : Prop} (h : p) : Hid p := h
theorem unhidE {p : Prop} (h : Hid p) : p := h
theorem cell_row (w : World) (b k : Nat) (c : Array Value) (e : TypeId) (fz : Nat × Nat) (h : w.heap[b]? = some (.cells c e fz)) : w.cell? ⟨b, k, none⟩ = c[k]? := by
  unfold World.cell?
  simp [h]
theorem toList_data (s : ByteArray) : s.toList = s.data.toList := by rw [ByteArray.toList_eq]

/-- A table in a block of its own. -/
structure TabAt (w : World) (b : Nat) (l : List ByteArray) : Prop where
  cells : ∀ (j : Nat) s, l[j]? = some s → w.cell? ⟨b, j, none⟩ = some (.string s)
  lt : b < w.heap.size
def hasN (l : List ByteArray) (n : ByteArray) : Bool := l.any fun x => n.toList == x.toList

set_option maxHeartbeats 1000000 in
theorem sindex_any (l : List ByteArray) (hl : l.length ≤ 1000) (n : ByteArray) (b : Nat) (w : World) (ht : TabAt w b l) :
    Calls Tryz.prog 109 #[.slice (some ⟨b, 0, none⟩) l.length l.length, .string n] w fun e w' => (∃ r : Int, e = .returned (.int .i64 r) ∧ decide (0 ≤ r) = hasN l n) ∧ w' = w := by
  unfold hasN
  have HT := hidE ht
  have hlz : (l.length : Int) ≤ 1000 := by omega
  clear ht hl
  go_enter Tryz.func109, Tryz.ntmps109
  go_wp2
  go_loopg [5, 8] l.length (fun g _ s8 wr => ∃ j : Nat, j + g = l.length ∧ s8 = .int .i64 j ∧ wr = w ∧ (∀ i s, i < j → l[i]? = some s → (n.toList == s.toList) = false))
  case atStart => exact ⟨0, by omega, rfl, rfl, fun i s hi => absurd hi (Nat.not_lt_zero _)⟩
  case round =>
    obtain ⟨j, hjg, rfl, rfl, hno⟩ := hrel
    have HN := hidE hno
    clear hno
    by_cases hj : j < l.length
    · have hjz : (j : Int) < (l.length : Int) := by omega
      obtain ⟨y, hy⟩ : ∃ y, l[j]? = some y := ⟨_, List.getElem?_eq_getElem hj⟩
      have hcell := (unhidE HT).cells j y hy
      have HY := hidE hy
      clear hy
      cases hq : (n.toList == y.toList) with
      | true =>
        have HQ := hidE hq
        go_wp2
        go_ret
        refine ⟨⟨_, rfl, ?_⟩, rfl⟩
        rw [List.any_eq_true.2 ⟨y, List.mem_of_getElem? (unhidE HY), unhidE HQ⟩]
        exact decide_eq_true (by omega)
      | false =>
        have HQ := hidE hq
        go_wp2
        go_roundg (gk - 1)
        case measure => omega
        case rel =>
          refine ⟨j + 1, by omega, by go_num, rfl, fun i s hi hs => ?_⟩
          by_cases e : i = j
          · subst e; rw [unhidE HY] at hs; cases hs; exact unhidE HQ
          · exact (unhidE HN) i s (by omega) hs
    · have hjz : ¬ (j : Int) < (l.length : Int) := by omega
      obtain rfl : j = l.length := by omega
      go_wp2
      go_ret
      refine ⟨⟨_, rfl, ?_⟩, rfl⟩
      have : (l.any fun x => n.toList == x.toList) = false := by
        rw [List.any_eq_false]
        intro s hs
        obtain ⟨i, hi⟩ := List.getElem?_of_mem hs
        rw [(unhidE HN) i s (List.getElem?_eq_some_iff.1 hi).1 hi]
        exact Bool.false_ne_true
      rw [this]
      rfl

theorem contains_any (l : List ByteArray) (hl : l.length ≤ 1000) (n : ByteArray) (b : Nat) (w : World) (ht : TabAt w b l) :
    Calls Tryz.prog 91 #[.slice (some ⟨b, 0, none⟩) l.length l.length, .string n] w fun e w' => e = .returned (.bool (hasN l n)) ∧ w' = w := by
  have HI := hidE (sindex_any l hl n b w ht)
  clear hl ht
  generalize hasN l n = r at HI
  go_enter Tryz.func91, Tryz.ntmps91
  go_wp2_with (go_at_call 109; refine (unhidE HI).mono ?_; rintro e w' ⟨⟨i, rfl, hi⟩, rfl⟩)
  go_ret
  exact ⟨by rw [← hi]; rfl, rfl⟩

def voids : List ByteArray := [⟨#[97, 114, 101, 97]⟩, ⟨#[98, 97, 115, 101]⟩, ⟨#[98, 97, 115, 101, 102, 111, 110, 116]⟩, ⟨#[98, 103, 115, 111, 117, 110, 100]⟩, ⟨#[98, 114]⟩, ⟨#[99, 111, 108]⟩, ⟨#[101, 109, 98, 101, 100]⟩, ⟨#[102, 114, 97, 109, 101]⟩, ⟨#[104, 114]⟩, ⟨#[105, 109, 103]⟩, ⟨#[105, 110, 112, 117, 116]⟩, ⟨#[107, 101, 121, 103, 101, 110]⟩, ⟨#[108, 105, 110, 107]⟩, ⟨#[109, 101, 116, 97]⟩, ⟨#[112, 97, 114, 97, 109]⟩, ⟨#[115, 111, 117, 114, 99, 101]⟩, ⟨#[116, 114, 97, 99, 107]⟩, ⟨#[119, 98, 114]⟩]
def plains : List ByteArray := [⟨#[115, 116, 121, 108, 101]⟩, ⟨#[115, 99, 114, 105, 112, 116]⟩, ⟨#[120, 109, 112]⟩, ⟨#[105, 102, 114, 97, 109, 101]⟩, ⟨#[110, 111, 101, 109, 98, 101, 100]⟩, ⟨#[110, 111, 102, 114, 97, 109, 101, 115]⟩, ⟨#[112, 108, 97, 105, 110, 116, 101, 120, 116]⟩]
def noscript : ByteArray := ⟨#[110, 111, 115, 99, 114, 105, 112, 116]⟩

def sRow (l : List ByteArray) : Array Value := (l.map Value.string).toArray
theorem tab_new (w : World) (l : List ByteArray) (t : TypeId) : TabAt (w.alloc (.cells (sRow l) t)) w.heap.size l := by
  refine ⟨fun j s hs => ?_, by simp⟩
  rw [cell_row _ w.heap.size j _ _ _ (heap_alloc_new w _)]
  simp [sRow, hs]
theorem below_new (w : World) (o : Obj) : Below w.heap.size w (w.alloc o) := (Below.refl _ w).alloc (Nat.le_refl _) _

set_option maxHeartbeats 1000000 in
set_option maxRecDepth 100000 in
theorem void_any (n : ByteArray) (w : World) : Calls Tryz.prog 90 #[.string n] w fun e w' => e = .returned (.bool (hasN voids n)) ∧ Below w.heap.size w w' := by
  have HC : Hid (Calls Tryz.prog 91 #[.slice (some ⟨w.heap.size, 0, none⟩) 18 18, .string n] (w.alloc (.cells (sRow voids) 151)) fun e w' => e = .returned (.bool (hasN voids n)) ∧ w' = (w.alloc (.cells (sRow voids) 151))) := hidE (contains_any voids (by decide) n w.heap.size _ (tab_new w voids _))
  have HB := hidE (below_new w (.cells (sRow voids) 151))
  generalize hasN voids n = r at HC
  go_enter Tryz.func90, Tryz.ntmps90
  go_wp2_with (go_at_call 91; refine (unhidE HC).mono ?_; rintro e w' ⟨rfl, rfl⟩)
  go_ret
  exact ⟨rfl, unhidE HB⟩

def plainM (n : ByteArray) (sc : Bool) : Bool := hasN plains n || (sc && (n.toList == noscript.toList))
set_option maxHeartbeats 1000000 in
set_option maxRecDepth 100000 in
theorem plain_any (n : ByteArray) (sc : Bool) (w : World) : Calls Tryz.prog 70 #[.string n, .bool sc] w fun e w' => e = .returned (.bool (plainM n sc)) ∧ Below w.heap.size w w' := by
  have HC : Hid (Calls Tryz.prog 91 #[.slice (some ⟨w.heap.size, 0, none⟩) 7 7, .string n] (w.alloc (.cells (sRow plains) 134)) fun e w' => e = .returned (.bool (hasN plains n)) ∧ w' = (w.alloc (.cells (sRow plains) 134))) := hidE (contains_any plains (by decide) n w.heap.size _ (tab_new w plains _))
  have HB := hidE (below_new w (.cells (sRow plains) 134))
  have hns : noscript.toList = [110, 111, 115, 99, 114, 105, 112, 116] := by decide +kernel
  unfold plainM
  rw [hns]
  clear hns
  generalize hasN plains n = r at HC
  cases r with
  | true =>
    go_enter Tryz.func70, Tryz.ntmps70
    go_wp2_with (go_at_call 91; refine (unhidE HC).mono ?_; rintro e w' ⟨rfl, rfl⟩)
    all_goals go_ret
    exact ⟨rfl, unhidE HB⟩
  | false =>
    cases sc with
    | false =>
      go_enter Tryz.func70, Tryz.ntmps70
      go_wp2_with (go_at_call 91; refine (unhidE HC).mono ?_; rintro e w' ⟨rfl, rfl⟩)
      all_goals go_ret
      exact ⟨rfl, unhidE HB⟩
    | true =>
      go_enter Tryz.func70, Tryz.ntmps70
      go_wp2_with (go_at_call 91; refine (unhidE HC).mono ?_; rintro e w' ⟨rfl, rfl⟩)
      all_goals go_ret
      exact ⟨rfl, unhidE HB⟩

theorem L_has (l : List ByteArray) (n : ByteArray) : hasN l n = (l.map (·.data.toList)).any fun x => n.toList == x := by
  unfold hasN
  rw [List.any_map]
  congr 1
  funext x
  simp [toList_data]
theorem voids_L : voids.map (·.data.toList) = [[97, 114, 101, 97], [98, 97, 115, 101], [98, 97, 115, 101, 102, 111, 110, 116], [98, 103, 115, 111, 117, 110, 100], [98, 114], [99, 111, 108], [101, 109, 98, 101, 100], [102, 114, 97, 109, 101], [104, 114], [105, 109, 103], [105, 110, 112, 117, 116], [107, 101, 121, 103, 101, 110], [108, 105, 110, 107], [109, 101, 116, 97], [112, 97, 114, 97, 109], [115, 111, 117, 114, 99, 101], [116, 114, 97, 99, 107], [119, 98, 114]] := rfl
theorem plains_L : plains.map (·.data.toList) = [[115, 116, 121, 108, 101], [115, 99, 114, 105, 112, 116], [120, 109, 112], [105, 102, 114, 97, 109, 101], [110, 111, 101, 109, 98, 101, 100], [110, 111, 102, 114, 97, 109, 101, 115], [112, 108, 97, 105, 110, 116, 101, 120, 116]] := rfl

set_option maxHeartbeats 4000000 in
set_option maxRecDepth 100000 in
theorem rvoid_any (n : ByteArray) (w : World) : Calls Tryz.prog 73 #[.string n] w fun e w' => e = .returned (.bool (hasN voids n)) ∧ w' = w := by
  have HT : Hid (hasN voids n = ([[97, 114, 101, 97], [98, 97, 115, 101], [98, 97, 115, 101, 102, 111, 110, 116], [98, 103, 115, 111, 117, 110, 100], [98, 114], [99, 111, 108], [101, 109, 98, 101, 100], [102, 114, 97, 109, 101], [104, 114], [105, 109, 103], [105, 110, 112, 117, 116], [107, 101, 121, 103, 101, 110], [108, 105, 110, 107], [109, 101, 116, 97], [112, 97, 114, 97, 109], [115, 111, 117, 114, 99, 101], [116, 114, 97, 99, 107], [119, 98, 114]] : List (List UInt8)).any fun x => n.toList == x) := hidE (by rw [L_has, voids_L])
  go_enter Tryz.func73, Tryz.ntmps73
  go_wp2
  all_goals go_ret
  all_goals (refine ⟨?_, rfl⟩; rw [unhidE HT]; first | (simp [*]; done) | (simp_all; done))

set_option maxHeartbeats 4000000 in
set_option maxRecDepth 100000 in
theorem rplain_any (n : ByteArray) (sc : Bool) (w : World) : Calls Tryz.prog 95 #[.string n, .bool sc] w fun e w' => e = .returned (.bool (plainM n sc)) ∧ w' = w := by
  have hns : noscript.toList = [110, 111, 115, 99, 114, 105, 112, 116] := by decide +kernel
  have HT : Hid (plainM n sc = ((([[115, 116, 121, 108, 101], [115, 99, 114, 105, 112, 116], [120, 109, 112], [105, 102, 114, 97, 109, 101], [110, 111, 101, 109, 98, 101, 100], [110, 111, 102, 114, 97, 109, 101, 115], [112, 108, 97, 105, 110, 116, 101, 120, 116]] : List (List UInt8)).any fun x => n.toList == x) || (sc && (n.toList == [110, 111, 115, 99, 114, 105, 112, 116])))) := hidE (by unfold plainM; rw [L_has, plains_L, hns])
  clear hns
  cases sc
  all_goals go_enter Tryz.func95, Tryz.ntmps95
  all_goals go_wp2
  all_goals go_ret
  all_goals (refine ⟨?_, rfl⟩; rw [unhidE HT]; first | (simp [*]; done) | (simp_all; done))

end Go.Proofs.YtmnmaenmoaehlaaGreatDoor
