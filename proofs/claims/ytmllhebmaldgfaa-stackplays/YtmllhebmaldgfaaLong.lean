import Derived.Test.YtmllhebmaldgfaaRead
/-
  Lists of attributes that are read: whether a text is too long, and the place of the first attribute of a kind.
-/
namespace Go.Proofs.Ytmllhebmaldgfaa
open Go.RowKit

def longS (s : ByteArray) : Bool := decide (1048576 < s.size)

/-- No text of the first k is long. -/
theorem none_long (ss : List ByteArray) (k : Nat) (s : ByteArray) (hs : ss[k]? = some s) (h : ∀ j s, j < k → ss[j]? = some s → longS s = false) (hl : longS s = false) : ∀ j s, j < k + 1 → ss[j]? = some s → longS s = false := by
  intro j t hj ht
  by_cases e : j = k
  · subst e; rw [hs] at ht; simp at ht; subst ht; exact hl
  · exact h j t (by omega) ht

theorem any_long_yes {ss : List ByteArray} {k : Nat} {s : ByteArray} (hs : ss[k]? = some s) (hl : longS s = true) : ss.any longS = true :=
  List.any_eq_true.2 ⟨s, List.mem_of_getElem? hs, hl⟩
theorem any_long_no {ss : List ByteArray} (h : ∀ j s, j < ss.length → ss[j]? = some s → longS s = false) : ss.any longS = false := by
  rw [List.any_eq_false]
  intro s hs
  obtain ⟨i, hi⟩ := List.mem_iff_getElem?.1 hs
  rw [h i s (List.getElem?_eq_some_iff.1 hi).1 hi]; simp

set_option maxHeartbeats 400000 in
theorem anyLong_any (w : World) (b cap : Nat) (ss : List ByteArray) (hc : ∀ j s, ss[j]? = some s → w.cell? ⟨b, j, none⟩ = some (.string s)) (hn : ss.length ≤ 1000) :
    Calls Try.prog 77 #[.slice (some ⟨b, 0, none⟩) ss.length cap] w fun e w' => e = .returned (.bool (ss.any longS)) ∧ w = w' := by
  go_enter Try.func77, Try.ntmps77
  go_wp2
  go_loop [7] (fun i => ∃ k : Nat, k ≤ ss.length ∧ i = .int .i64 k ∧ ∀ j s, j < k → ss[j]? = some s → longS s = false) (fun i => ss.length - (intOf i).toNat)
  case atStart => exact ⟨0, Nat.zero_le _, rfl, fun j s hj => by omega⟩
  case round =>
    obtain ⟨k, hk, rfl, hall⟩ := hrel
    by_cases hlt : k < ss.length
    · obtain ⟨s, hs⟩ : ∃ s, ss[k]? = some s := ⟨_, List.getElem?_eq_getElem hlt⟩
      have hcell := hc k s hs
      clear hc
      by_cases hl : longS s = true
      · have hl' : (1048576 : Int) < (s.size : Int) := by simp [longS] at hl; omega
        have HA : Hid (ss.any longS = true) := any_long_yes hs hl
        clear hs hall hl
        go_wp2
        go_ret
        exact ⟨by rw [HA.out]; rfl, rfl⟩
      · have hl0 : longS s = false := by simpa using hl
        have hl' : ¬ (1048576 : Int) < (s.size : Int) := by simp [longS] at hl0; omega
        have HA := none_long ss k s hs hall hl0
        have HA' : Hid (∀ j s, j < k + 1 → ss[j]? = some s → longS s = false) := HA
        clear HA hs hall hl hl0
        go_wp2
        go_round
        case rel => exact ⟨k + 1, by omega, by go_num, HA'.out⟩
        case measure => simp [intOf]; omega
    · have HA : Hid (ss.any longS = false) := any_long_no (fun j s hj hs => hall j s (by omega) hs)
      clear hall hc
      go_wp2
      go_ret
      exact ⟨by rw [HA.out]; rfl, rfl⟩

def AttrM.long (x : AttrM) : Bool := [x.pre, x.name, x.val].any longS
def AttrM.agg (x : AttrM) : Value := .agg #[.int .i64 x.space, .string x.pre, .string x.name, .string x.val]

theorem three_cells (w : World) (t : TypeId) (x y z : ByteArray) : ∀ j s, [x, y, z][j]? = some s → (w.alloc (.cells #[.string x, .string y, .string z] t)).cell? ⟨w.heap.size, j, none⟩ = some (.string s) := by
  intro j s hj
  match j, hj with
  | 0, hj => simp at hj; subst hj; simp
  | 1, hj => simp at hj; subst hj; simp
  | 2, hj => simp at hj; subst hj; simp

set_option maxHeartbeats 400000 in
theorem isLongAttr_any (x : AttrM) (w : World) :
    Calls Try.prog 117 #[x.agg] w fun e w' => e = .returned (.bool x.long) ∧ Below w.heap.size w w' := by
  unfold AttrM.agg
  go_enter Try.func117, Try.ntmps117
  go_wp2_with (go_at_call 77; go_must (refine (anyLong_any _ _ 3 [x.pre, x.name, x.val] (by have := three_cells (w.alloc (.cells #[.int .i64 x.space, .string x.pre, .string x.name, .string x.val] 137)) 9 x.pre x.name x.val; simpa using this) (by simp)).mono ?_); rintro e w' ⟨rfl, rfl⟩)
  go_ret
  exact ⟨by simp [AttrM.long], (((Below.refl _ _).alloc (Nat.le_refl _) _).alloc (by simp) _)⟩

/-- A slice of attributes as it is read: its length, and where its cells lie, if there are any. -/
structure AttrsIn (w : World) (a : Option Addr) (l : List AttrM) : Prop where
  cells : ∀ (i : Nat) x, l[i]? = some x → ∃ b off, a = some ⟨b, off, none⟩ ∧ w.cell? ⟨b, off + i * 4, none⟩ = some (.int .i64 x.space) ∧ w.cell? ⟨b, off + i * 4 + 1, none⟩ = some (.string x.pre) ∧
    w.cell? ⟨b, off + i * 4 + 2, none⟩ = some (.string x.name) ∧ w.cell? ⟨b, off + i * 4 + 3, none⟩ = some (.string x.val)

theorem AttrsIn.below {w w' : World} {a : Option Addr} {l : List AttrM} (h : AttrsIn w a l) (hb : Below w.heap.size w w') : AttrsIn w' a l := by
  refine ⟨fun i x hi => ?_⟩
  obtain ⟨b, off, e, c0, c1, c2, c3⟩ := h.cells i x hi
  have hlt : b < w.heap.size := World.block_lt_of_cell? w _ c0
  exact ⟨b, off, e, (hb.cell (p := ⟨b, off + i * 4, none⟩) hlt).trans c0, (hb.cell (p := ⟨b, off + i * 4 + 1, none⟩) hlt).trans c1, (hb.cell (p := ⟨b, off + i * 4 + 2, none⟩) hlt).trans c2, (hb.cell (p := ⟨b, off + i * 4 + 3, none⟩) hlt).trans c3⟩

def idxM (p : AttrM → Bool) (l : List AttrM) : Int := match l.findIdx? p with | some i => i | none => -1

theorem idxM_hit {p : AttrM → Bool} {l : List AttrM} {k : Nat} {x : AttrM} (hx : l[k]? = some x) (hp : p x = true) (h : ∀ j x, j < k → l[j]? = some x → p x = false) : idxM p l = k := by
  have hlt : k < l.length := (List.getElem?_eq_some_iff.1 hx).1
  have : l.findIdx? p = some k := by
    rw [List.findIdx?_eq_some_iff_getElem]
    refine ⟨hlt, ?_, ?_⟩
    · rw [List.getElem?_eq_getElem hlt] at hx; simp at hx; rw [hx]; exact hp
    · intro j hj; rw [h j l[j] hj (List.getElem?_eq_getElem (by omega))]; simp
  simp [idxM, this]

theorem idxM_miss {p : AttrM → Bool} {l : List AttrM} (h : ∀ j x, j < l.length → l[j]? = some x → p x = false) : idxM p l = -1 := by
  have : l.findIdx? p = none := by
    rw [List.findIdx?_eq_none_iff]
    intro x hx
    obtain ⟨i, hi⟩ := List.mem_iff_getElem?.1 hx
    exact h i x (List.getElem?_eq_some_iff.1 hi).1 hi
  simp [idxM, this]

theorem none_attr {p : AttrM → Bool} {l : List AttrM} {k : Nat} {x : AttrM} (hx : l[k]? = some x) (h : ∀ j x, j < k → l[j]? = some x → p x = false) (hp : p x = false) : ∀ j x, j < k + 1 → l[j]? = some x → p x = false := by
  intro j t hj ht
  by_cases e : j = k
  · subst e; rw [hx] at ht; simp at ht; subst ht; exact hp
  · exact h j t (by omega) ht

set_option maxHeartbeats 1000000 in
theorem indexFunc_any (K : Nat) (cs : Array Value) (eg : ∀ args w, (callFunc K args).run Try.prog w = .ok (.enter K args) w) (p : AttrM → Bool) (w : World)
    (hf : ∀ (x : AttrM) w1, Below w.heap.size w w1 → Calls Try.prog K (#[x.agg] ++ cs) w1 fun e w' => e = .returned (.bool (p x)) ∧ Below w1.heap.size w1 w')
    (a : Option Addr) (cap : Nat) (l : List AttrM) (hl : AttrsIn w a l) (hn : l.length ≤ maxLen) :
    Calls Try.prog 129 #[.slice a l.length cap, .func (.func K) #[] cs] w fun e w' => e = .returned (.int .i64 (idxM p l)) ∧ Below w.heap.size w w' := by
  unfold maxLen at hn
  have HF : Hid (∀ (x : AttrM) w1, Below w.heap.size w w1 → Calls Try.prog K (#[x.agg] ++ cs) w1 fun e w' => e = .returned (.bool (p x)) ∧ Below w1.heap.size w1 w') := hf
  clear hf
  go_enter Try.func129, Try.ntmps129
  go_wp2
  go_loopw [8] (fun i wr => ∃ k : Nat, k ≤ l.length ∧ i = .int .i64 k ∧ (∀ j x, j < k → l[j]? = some x → p x = false) ∧ Below w.heap.size w wr) (fun i _ => l.length - (intOf i).toNat)
  case atStart => exact ⟨0, Nat.zero_le _, rfl, fun j x hj => by omega, Below.refl _ _⟩
  case round =>
    obtain ⟨k, hk, rfl, hall, hb⟩ := hrel
    by_cases hlt : k < l.length
    · obtain ⟨x, hx⟩ : ∃ x, l[k]? = some x := ⟨_, List.getElem?_eq_getElem hlt⟩
      obtain ⟨b, off, e, c0, c1, c2, c3⟩ := (hl.below hb).cells k x hx
      subst e
      have hcall := HF.out x wr hb
      have HC : Hid (Calls Try.prog K (#[x.agg] ++ cs) wr fun e w' => e = .returned (.bool (p x)) ∧ Below wr.heap.size wr w') := hcall
      clear hcall HF hl
      have HB : Hid (Below w.heap.size w wr) := hb
      clear hb
      cases hp : p x with
      | true =>
        have HA : Hid (idxM p l = k) := idxM_hit hx hp hall
        rw [hp] at HC
        clear hx hall hp
        go_wp2_with fail
        refine HC.out.mono ?_
        rintro e w1 ⟨rfl, hb1⟩
        go_wp2
        go_ret
        exact ⟨by rw [HA.out]; rfl, HB.out.trans (hb1.mono HB.out.size)⟩
      | false =>
        have HA : Hid (∀ j x, j < k + 1 → l[j]? = some x → p x = false) := none_attr hx hall hp
        rw [hp] at HC
        clear hx hall hp
        go_wp2_with fail
        refine HC.out.mono ?_
        rintro e w1 ⟨rfl, hb1⟩
        go_wp2
        go_roundw
        case rel => exact ⟨k + 1, by omega, by go_num, HA.out, HB.out.trans (hb1.mono HB.out.size)⟩
        case measure => simp [intOf]; omega
    · have HA : Hid (idxM p l = -1) := idxM_miss (fun j s hj hs => hall j s (by omega) hs)
      have HB : Hid (Below w.heap.size w wr) := hb
      clear hall hl HF hb
      go_wp2
      go_ret
      exact ⟨by rw [HA.out]; rfl, HB.out⟩
end Go.Proofs.Ytmllhebmaldgfaa
