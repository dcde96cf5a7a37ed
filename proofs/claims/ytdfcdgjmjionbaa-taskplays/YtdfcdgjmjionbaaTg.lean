/-
  Ready of a queue: the sources that have tasks, in a new list.
-/
import Derived.Test.YtdfcdgjmjionbaaTf
namespace Go.Proofs.Ytdfcdgjmjionbaa
open Go.RowKit Go.Lib

def intsV (l : List Int) : List Value := l.map fun x => .int .i64 x
theorem intsV_len (l : List Int) : (intsV l).length = l.length := by simp [intsV]
def oneR (k : Int) (n : Nat) : List Int := if 0 < n then [k] else []
def rdUp (a b c d : Nat) : Nat → List Int
  | 0 => []
  | 1 => oneR 0 a
  | 2 => oneR 0 a ++ oneR 1 b
  | 3 => oneR 0 a ++ oneR 1 b ++ oneR 2 c
  | _ => oneR 0 a ++ oneR 1 b ++ oneR 2 c ++ oneR 3 d
theorem oneR_len (k : Int) (n : Nat) : (oneR k n).length ≤ 1 := by unfold oneR; split <;> simp
theorem rdUp_len (a b c d i : Nat) : (rdUp a b c d i).length ≤ 4 := by
  have h0 := oneR_len 0 a
  have h1 := oneR_len 1 b
  have h2 := oneR_len 2 c
  have h3 := oneR_len 3 d
  unfold rdUp
  split <;> simp <;> omega
def toI (l : List Nat) : List Int := l.map fun (i : Nat) => (i : Int)
theorem toI_len (l : List Nat) : (toI l).length = l.length := by simp [toI]
/-- The sources that have tasks. -/
def readyQ (qs : List (List Tk)) : List Nat := (List.range 4).filter fun i => decide (0 < (qs.getD i []).length)
theorem readyQ_4 (l0 l1 l2 l3 : List Tk) : toI (readyQ [l0, l1, l2, l3]) = rdUp l0.length l1.length l2.length l3.length 4 := by
  have e : List.range 4 = [0, 1, 2, 3] := rfl
  unfold toI readyQ rdUp oneR
  rw [e]
  by_cases h0 : 0 < l0.length <;> by_cases h1 : 0 < l1.length <;> by_cases h2 : 0 < l2.length <;> by_cases h3 : 0 < l3.length <;> simp [List.filter, h0, h1, h2, h3]

theorem info3 : (Try.prog.info? 3).map (fun i => (i.zero, i.size, i.bytes)) = some (some (.int .i64 0), 1, 8) := by kernel_rfl
theorem ownsRow_kept {w w' : World} {base : Nat} {e : TypeId} {size : Nat} {v : Value} {n : Nat} {xs : List Value} (h : w.ownsRow base e size v n xs) (hk : ∀ k, v.ownBlock = some k → w'.heap[k]? = w.heap[k]?) : w'.ownsRow base e size v n xs := by
  refine ⟨h.1, ?_⟩
  rcases h.2 with hn | ⟨g', cap', cur, rfl, hbb, hgg, rest⟩
  · exact .inl hn
  · exact .inr ⟨g', cap', cur, rfl, hbb, by rw [hk g' rfl]; exact hgg, rest⟩
theorem ownsRow_block {w : World} {base : Nat} {e : TypeId} {size : Nat} {v : Value} {n : Nat} {xs : List Value} (h : w.ownsRow base e size v n xs) {k : Nat} (hk : v.ownBlock = some k) : ∃ cur, w.heap[k]? = some (.cells cur e (0, 0)) := by
  rcases h.2 with ⟨h', _⟩ | ⟨g', cap', cur, h', _, hg, _⟩
  · subst h'; simp [Value.ownBlock] at hk
  · subst h'; simp [Value.ownBlock] at hk; subst hk; exact ⟨cur, hg⟩
theorem ownsRow_base {w : World} {base : Nat} {e : TypeId} {size : Nat} {v : Value} {n : Nat} {xs : List Value} (h : w.ownsRow base e size v n xs) {k : Nat} (hk : some k = v.ownBlock) : base ≤ k := by
  rcases h.2 with ⟨h', _⟩ | ⟨g', cap', cur, h', hb, _⟩
  · subst h'; simp [Value.ownBlock] at hk
  · subst h'; simp [Value.ownBlock] at hk; subst hk; exact hb
theorem ownsRow_more {w w' : World} {base : Nat} {e : TypeId} {size : Nat} {v : Value} {n : Nat} {xs : List Value} (h : w.ownsRow base e size v n xs) (hb : Below w.heap.size w w') : w'.ownsRow base e size v n xs :=
  ownsRow_kept h fun k hk => by obtain ⟨cur, hc⟩ := ownsRow_block h hk; exact hb.block k (lt_of_block hc)
/-- A row of one's own, as a slice that is read. -/
theorem ownsRow_row {w : World} {base : Nat} {v : Value} {l : List Int} (h : w.ownsRow base 3 1 v l.length (intsV l)) : ∃ a c, v = .slice a l.length c ∧ RowIn w (fun k => base ≤ k) a (intsV l) := by
  rcases h.2 with ⟨rfl, h0⟩ | ⟨g, cap, cur, rfl, hb, hg, _⟩
  · obtain rfl : l = [] := List.eq_nil_of_length_eq_zero h0
    exact ⟨none, 0, rfl, RowIn.nil _ _ _⟩
  · refine ⟨some ⟨g, 0, none⟩, cap, rfl, fun j u hj => ⟨g, 0, rfl, hb, ?_⟩⟩
    have hl := (List.getElem?_eq_some_iff.1 hj).1
    rw [intsV_len] at hl
    rw [Nat.zero_add, h.cellAt j (by omega)]
    exact hj
theorem oneCell_int (i : Int) : ∀ u ∈ ([.int .i64 i] : List Value), u.oneCell' = true := by intro u hu; simp at hu; subst hu; rfl

/-- A nil queue, and one that nobody made: nothing. -/
theorem ready_zero (v : Option Addr) (w : World) (h : v = none ∨ ∃ b, v = some ⟨b, 0, none⟩ ∧ w.cell? ⟨b, 0, none⟩ = some (.chan none)) : Calls Try.prog 20 #[.pointer v] w fun e w' => e = .returned (.slice none 0 0) ∧ Below w.heap.size w w' := by
  have HM : Hid (Calls Try.prog 24 #[.pointer v] w fun e w' => e = .returned (.bool false) ∧ Below w.heap.size w w') := by
    rcases h with rfl | ⟨b, rfl, hc⟩
    · exact hide (made_nil w)
    · exact hide (made_any b none w hc)
  clear h
  go_enter Try.func20, Try.ntmps20
  go_wp2_with (go_at_call 24; go_must (refine (unhide HM).mono ?_); rintro e w1 ⟨rfl, hb⟩; have HB := hide hb; clear hb)
  go_ret
  exact ⟨rfl, unhide HB⟩
theorem len_zero (v : Option Addr) (w : World) (h : v = none ∨ ∃ b, v = some ⟨b, 0, none⟩ ∧ w.cell? ⟨b, 0, none⟩ = some (.chan none)) : Calls Try.prog 17 #[.pointer v] w fun e w' => e = .returned (.int .i64 0) ∧ Below w.heap.size w w' := by
  have HM : Hid (Calls Try.prog 24 #[.pointer v] w fun e w' => e = .returned (.bool false) ∧ Below w.heap.size w w') := by
    rcases h with rfl | ⟨b, rfl, hc⟩
    · exact hide (made_nil w)
    · exact hide (made_any b none w hc)
  clear h
  go_enter Try.func17, Try.ntmps17
  go_wp2_with (go_at_call 24; go_must (refine (unhide HM).mono ?_); rintro e w1 ⟨rfl, hb⟩; have HB := hide hb; clear hb)
  go_ret
  exact ⟨rfl, unhide HB⟩

set_option maxRecDepth 10000 in
set_option maxHeartbeats 4000000 in
theorem ready_any {w : World} {base bq : Nat} {qs : List (List Tk)} {F : Nat → Prop} (h : QueS w base bq qs F) :
    Calls Try.prog 20 #[.pointer (some ⟨bq, 0, none⟩)] w fun e w' => ∃ a cap, e = .returned (.slice a (readyQ qs).length cap) ∧ Below w.heap.size w w' ∧ RowIn w' (fun k => w.heap.size ≤ k) a (intsV (toI (readyQ qs))) := by
  obtain ⟨l0, l1, l2, l3, c0, c1, c2, c3, rfl, hq, h0, h1, h2, h3⟩ := h.open4
  have H0 := hide h0.size
  have H1 := hide h1.size
  have H2 := hide h2.size
  have H3 := hide h3.size
  have hlen : (readyQ [l0, l1, l2, l3]).length = (rdUp l0.length l1.length l2.length l3.length 4).length := by rw [← readyQ_4, toI_len]
  rw [hlen, readyQ_4]
  clear hlen h h0 h1 h2 h3
  generalize l0.length = n0 at *
  generalize l1.length = n1 at *
  generalize l2.length = n2 at *
  generalize l3.length = n3 at *
  have k0 := (cell_of_row _ _ 0 _ _ _ hq).trans (by rfl : _ = some (.chan (some c0)))
  have HM := hide (made_any bq (some c0) w k0)
  have HQ := hide hq
  clear hq k0
  obtain ⟨i0, hi, hz0, hz1, hz2⟩ := info_parts info3
  unfold lineV at H0 H1 H2 H3
  go_enter Try.func20, Try.ntmps20
  go_wp2_with (go_at_call 24; go_must (refine (unhide HM).mono ?_); rintro e w1 ⟨rfl, hb⟩; have hq := (hb.block bq (lt_of_block (unhide HQ))).trans (unhide HQ); have HB := hide hb; have k0 := (cell_of_row _ _ 0 _ _ _ hq).trans (by rfl : _ = some (.chan (some c0))); have k1 := (cell_of_row _ _ 1 _ _ _ hq).trans (by rfl : _ = some (.chan (some c1))); have k2 := (cell_of_row _ _ 2 _ _ _ hq).trans (by rfl : _ = some (.chan (some c2))); have k3 := (cell_of_row _ _ 3 _ _ _ hq).trans (by rfl : _ = some (.chan (some c3))); clear hb hq)
  clear k0 k1 k2 k3
  go_loopg [3, 13] 4 (fun k s3 s13 wx => ∃ (i : Nat) (z : Int), s13 = .int .i64 z ∧ i + k = 4 ∧ z = (i : Int) ∧ Below w1.heap.size w1 wx ∧ wx.ownsRow w1.heap.size 3 1 s3 (rdUp n0 n1 n2 n3 i).length (intsV (rdUp n0 n1 n2 n3 i)))
  case atStart => exact ⟨0, 0, rfl, by omega, rfl, Below.refl _ _, by simp [rdUp, intsV, intsV], .inl ⟨rfl, rfl⟩⟩
  case round =>
    obtain ⟨i, z, rfl, hik, hz, hb, hown⟩ := hrel
    have HBX := hide ((unhide HB).trans (hb.mono (unhide HB).size))
    have HB1 := hide hb
    have HOWN := hide hown
    clear hb hown
    rcases (by omega : i = 0 ∨ i = 1 ∨ i = 2 ∨ i = 3 ∨ i = 4) with rfl | rfl | rfl | rfl | rfl
    · obtain rfl : z = 0 := by omega
      have HR := hide (show rdUp n0 n1 n2 n3 1 = rdUp n0 n1 n2 n3 0 ++ oneR 0 n0 from by simp [rdUp])
      have HLE := hide (rdUp_len n0 n1 n2 n3 0)
      generalize rdUp n0 n1 n2 n3 0 = R at *
      have hx := idx54_0 c0 c1 c2 c3
      by_cases hp : 0 < n0
      · have hpz : (0 : Int) < (n0 : Int) := by omega
        have HO : Hid (rdUp n0 n1 n2 n3 1 = R ++ [0]) := hide (by rw [unhide HR]; simp [oneR, hp])
        clear hz hp HR
        go_wp2_with (first
          | (go_at_call 29; refine (unhide H0 _ ((unhide HBX).alloc (unhide HBX).size _)).mono ?_; rintro e w2 ⟨rfl, hb⟩; have HW := hide ((below_new _ _).trans (hb.mono (by simp))); have HB2 := hide ((unhide HB1).trans ((unhide HW).mono (unhide HB1).size)); have HOW2 := hide (ownsRow_more (unhide HOWN) (unhide HW)); clear hb)
          | (at_builtin; go_must (refine wpList_append_lies _ (by rfl) _ _ 42 (by rfl) w1.heap.size 3 i0 _ 1 8 Try.underlying42 hi hz0 hz1 hz2 rfl (by omega) _ R.length (intsV R) (by rfl) (ownsRow_more (unhide HOW2) (below_new _ _)) ⟨w2.heap.size, 0, none⟩ 1 1 [.int .i64 0] (by rfl) rfl (by intro j u hj; match j, hj with | 0, hj => simp at hj; subst hj; rw [add_at]; exact cell_of_one (heap_alloc_new w2 _)) (oneCell_int _) (by omega) (by have := unhide HLE; unfold maxLen; omega) (by have := unhide HLE; omega) (by have := (unhide HB2).size; simp; omega) _ rfl ?_); intro g cap w3 g1 g2 g3 g4; have HG1 := hide g1; have HG2 := hide (unhide HB2 |>.trans ⟨g2.os, g2.tape, g2.output, by have := g2.size; simp at this; omega, fun k hk => by
              have hk2 := (unhide HB2).size
              rw [g2.block k (by simp; omega) (fun e => by have := ownsRow_base (unhide HOW2) e; omega)]
              exact Below.heap_alloc _ _ _ (by omega)⟩); clear g1 g2 g3 g4))
        go_roundg (gk - 1)
        case measure => omega
        case rel => exact ⟨1, _, by go_num, by omega, rfl, unhide HG2, by rw [unhide HO, intsV, List.map_append, List.length_append]; exact unhide HG1⟩
      · have hpz : ¬ (0 : Int) < (n0 : Int) := by omega
        have HO : Hid (rdUp n0 n1 n2 n3 1 = R) := hide (by rw [unhide HR]; simp [oneR, hp])
        clear hz hp HR
        go_wp2_with (go_at_call 29; refine (unhide H0 _ ((unhide HBX).alloc (unhide HBX).size _)).mono ?_; rintro e w2 ⟨rfl, hb⟩; have HW := hide ((below_new _ _).trans (hb.mono (by simp))); have HB2 := hide ((unhide HB1).trans ((unhide HW).mono (unhide HB1).size)); have HOW2 := hide (ownsRow_more (unhide HOWN) (unhide HW)); clear hb)
        go_roundg (gk - 1)
        case measure => omega
        case rel => exact ⟨1, _, by go_num, by omega, rfl, unhide HB2, by rw [unhide HO]; exact unhide HOW2⟩
    · obtain rfl : z = 1 := by omega
      have HR := hide (show rdUp n0 n1 n2 n3 2 = rdUp n0 n1 n2 n3 1 ++ oneR 1 n1 from rfl)
      have HLE := hide (rdUp_len n0 n1 n2 n3 1)
      generalize rdUp n0 n1 n2 n3 1 = R at *
      have hx := idx54_1 c0 c1 c2 c3
      by_cases hp : 0 < n1
      · have hpz : (0 : Int) < (n1 : Int) := by omega
        have HO : Hid (rdUp n0 n1 n2 n3 2 = R ++ [1]) := hide (by rw [unhide HR]; simp [oneR, hp])
        clear hz hp HR
        go_wp2_with (first
          | (go_at_call 29; refine (unhide H1 _ ((unhide HBX).alloc (unhide HBX).size _)).mono ?_; rintro e w2 ⟨rfl, hb⟩; have HW := hide ((below_new _ _).trans (hb.mono (by simp))); have HB2 := hide ((unhide HB1).trans ((unhide HW).mono (unhide HB1).size)); have HOW2 := hide (ownsRow_more (unhide HOWN) (unhide HW)); clear hb)
          | (at_builtin; go_must (refine wpList_append_lies _ (by rfl) _ _ 42 (by rfl) w1.heap.size 3 i0 _ 1 8 Try.underlying42 hi hz0 hz1 hz2 rfl (by omega) _ R.length (intsV R) (by rfl) (ownsRow_more (unhide HOW2) (below_new _ _)) ⟨w2.heap.size, 0, none⟩ 1 1 [.int .i64 1] (by rfl) rfl (by intro j u hj; match j, hj with | 0, hj => simp at hj; subst hj; rw [add_at]; exact cell_of_one (heap_alloc_new w2 _)) (oneCell_int _) (by omega) (by have := unhide HLE; unfold maxLen; omega) (by have := unhide HLE; omega) (by have := (unhide HB2).size; simp; omega) _ rfl ?_); intro g cap w3 g1 g2 g3 g4; have HG1 := hide g1; have HG2 := hide (unhide HB2 |>.trans ⟨g2.os, g2.tape, g2.output, by have := g2.size; simp at this; omega, fun k hk => by
              have hk2 := (unhide HB2).size
              rw [g2.block k (by simp; omega) (fun e => by have := ownsRow_base (unhide HOW2) e; omega)]
              exact Below.heap_alloc _ _ _ (by omega)⟩); clear g1 g2 g3 g4))
        go_roundg (gk - 1)
        case measure => omega
        case rel => exact ⟨2, _, by go_num, by omega, rfl, unhide HG2, by rw [unhide HO, intsV, List.map_append, List.length_append]; exact unhide HG1⟩
      · have hpz : ¬ (0 : Int) < (n1 : Int) := by omega
        have HO : Hid (rdUp n0 n1 n2 n3 2 = R) := hide (by rw [unhide HR]; simp [oneR, hp])
        clear hz hp HR
        go_wp2_with (go_at_call 29; refine (unhide H1 _ ((unhide HBX).alloc (unhide HBX).size _)).mono ?_; rintro e w2 ⟨rfl, hb⟩; have HW := hide ((below_new _ _).trans (hb.mono (by simp))); have HB2 := hide ((unhide HB1).trans ((unhide HW).mono (unhide HB1).size)); have HOW2 := hide (ownsRow_more (unhide HOWN) (unhide HW)); clear hb)
        go_roundg (gk - 1)
        case measure => omega
        case rel => exact ⟨2, _, by go_num, by omega, rfl, unhide HB2, by rw [unhide HO]; exact unhide HOW2⟩
    · obtain rfl : z = 2 := by omega
      have HR := hide (show rdUp n0 n1 n2 n3 3 = rdUp n0 n1 n2 n3 2 ++ oneR 2 n2 from rfl)
      have HLE := hide (rdUp_len n0 n1 n2 n3 2)
      generalize rdUp n0 n1 n2 n3 2 = R at *
      have hx := idx54_2 c0 c1 c2 c3
      by_cases hp : 0 < n2
      · have hpz : (0 : Int) < (n2 : Int) := by omega
        have HO : Hid (rdUp n0 n1 n2 n3 3 = R ++ [2]) := hide (by rw [unhide HR]; simp [oneR, hp])
        clear hz hp HR
        go_wp2_with (first
          | (go_at_call 29; refine (unhide H2 _ ((unhide HBX).alloc (unhide HBX).size _)).mono ?_; rintro e w2 ⟨rfl, hb⟩; have HW := hide ((below_new _ _).trans (hb.mono (by simp))); have HB2 := hide ((unhide HB1).trans ((unhide HW).mono (unhide HB1).size)); have HOW2 := hide (ownsRow_more (unhide HOWN) (unhide HW)); clear hb)
          | (at_builtin; go_must (refine wpList_append_lies _ (by rfl) _ _ 42 (by rfl) w1.heap.size 3 i0 _ 1 8 Try.underlying42 hi hz0 hz1 hz2 rfl (by omega) _ R.length (intsV R) (by rfl) (ownsRow_more (unhide HOW2) (below_new _ _)) ⟨w2.heap.size, 0, none⟩ 1 1 [.int .i64 2] (by rfl) rfl (by intro j u hj; match j, hj with | 0, hj => simp at hj; subst hj; rw [add_at]; exact cell_of_one (heap_alloc_new w2 _)) (oneCell_int _) (by omega) (by have := unhide HLE; unfold maxLen; omega) (by have := unhide HLE; omega) (by have := (unhide HB2).size; simp; omega) _ rfl ?_); intro g cap w3 g1 g2 g3 g4; have HG1 := hide g1; have HG2 := hide (unhide HB2 |>.trans ⟨g2.os, g2.tape, g2.output, by have := g2.size; simp at this; omega, fun k hk => by
              have hk2 := (unhide HB2).size
              rw [g2.block k (by simp; omega) (fun e => by have := ownsRow_base (unhide HOW2) e; omega)]
              exact Below.heap_alloc _ _ _ (by omega)⟩); clear g1 g2 g3 g4))
        go_roundg (gk - 1)
        case measure => omega
        case rel => exact ⟨3, _, by go_num, by omega, rfl, unhide HG2, by rw [unhide HO, intsV, List.map_append, List.length_append]; exact unhide HG1⟩
      · have hpz : ¬ (0 : Int) < (n2 : Int) := by omega
        have HO : Hid (rdUp n0 n1 n2 n3 3 = R) := hide (by rw [unhide HR]; simp [oneR, hp])
        clear hz hp HR
        go_wp2_with (go_at_call 29; refine (unhide H2 _ ((unhide HBX).alloc (unhide HBX).size _)).mono ?_; rintro e w2 ⟨rfl, hb⟩; have HW := hide ((below_new _ _).trans (hb.mono (by simp))); have HB2 := hide ((unhide HB1).trans ((unhide HW).mono (unhide HB1).size)); have HOW2 := hide (ownsRow_more (unhide HOWN) (unhide HW)); clear hb)
        go_roundg (gk - 1)
        case measure => omega
        case rel => exact ⟨3, _, by go_num, by omega, rfl, unhide HB2, by rw [unhide HO]; exact unhide HOW2⟩
    · obtain rfl : z = 3 := by omega
      have HR := hide (show rdUp n0 n1 n2 n3 4 = rdUp n0 n1 n2 n3 3 ++ oneR 3 n3 from rfl)
      have HLE := hide (rdUp_len n0 n1 n2 n3 3)
      generalize rdUp n0 n1 n2 n3 3 = R at *
      have hx := idx54_3 c0 c1 c2 c3
      by_cases hp : 0 < n3
      · have hpz : (0 : Int) < (n3 : Int) := by omega
        have HO : Hid (rdUp n0 n1 n2 n3 4 = R ++ [3]) := hide (by rw [unhide HR]; simp [oneR, hp])
        clear hz hp HR
        go_wp2_with (first
          | (go_at_call 29; refine (unhide H3 _ ((unhide HBX).alloc (unhide HBX).size _)).mono ?_; rintro e w2 ⟨rfl, hb⟩; have HW := hide ((below_new _ _).trans (hb.mono (by simp))); have HB2 := hide ((unhide HB1).trans ((unhide HW).mono (unhide HB1).size)); have HOW2 := hide (ownsRow_more (unhide HOWN) (unhide HW)); clear hb)
          | (at_builtin; go_must (refine wpList_append_lies _ (by rfl) _ _ 42 (by rfl) w1.heap.size 3 i0 _ 1 8 Try.underlying42 hi hz0 hz1 hz2 rfl (by omega) _ R.length (intsV R) (by rfl) (ownsRow_more (unhide HOW2) (below_new _ _)) ⟨w2.heap.size, 0, none⟩ 1 1 [.int .i64 3] (by rfl) rfl (by intro j u hj; match j, hj with | 0, hj => simp at hj; subst hj; rw [add_at]; exact cell_of_one (heap_alloc_new w2 _)) (oneCell_int _) (by omega) (by have := unhide HLE; unfold maxLen; omega) (by have := unhide HLE; omega) (by have := (unhide HB2).size; simp; omega) _ rfl ?_); intro g cap w3 g1 g2 g3 g4; have HG1 := hide g1; have HG2 := hide (unhide HB2 |>.trans ⟨g2.os, g2.tape, g2.output, by have := g2.size; simp at this; omega, fun k hk => by
              have hk2 := (unhide HB2).size
              rw [g2.block k (by simp; omega) (fun e => by have := ownsRow_base (unhide HOW2) e; omega)]
              exact Below.heap_alloc _ _ _ (by omega)⟩); clear g1 g2 g3 g4))
        go_roundg (gk - 1)
        case measure => omega
        case rel => exact ⟨4, _, by go_num, by omega, rfl, unhide HG2, by rw [unhide HO, intsV, List.map_append, List.length_append]; exact unhide HG1⟩
      · have hpz : ¬ (0 : Int) < (n3 : Int) := by omega
        have HO : Hid (rdUp n0 n1 n2 n3 4 = R) := hide (by rw [unhide HR]; simp [oneR, hp])
        clear hz hp HR
        go_wp2_with (go_at_call 29; refine (unhide H3 _ ((unhide HBX).alloc (unhide HBX).size _)).mono ?_; rintro e w2 ⟨rfl, hb⟩; have HW := hide ((below_new _ _).trans (hb.mono (by simp))); have HB2 := hide ((unhide HB1).trans ((unhide HW).mono (unhide HB1).size)); have HOW2 := hide (ownsRow_more (unhide HOWN) (unhide HW)); clear hb)
        go_roundg (gk - 1)
        case measure => omega
        case rel => exact ⟨4, _, by go_num, by omega, rfl, unhide HB2, by rw [unhide HO]; exact unhide HOW2⟩
    · obtain rfl : z = 4 := by omega
      obtain ⟨a, cp, rfl, hr⟩ := ownsRow_row (unhide HOWN)
      have HRR := hide hr
      clear hz hr HOWN
      go_wp2
      go_ret
      exact ⟨a, cp, rfl, unhide HBX, (unhide HRR).mono (fun k _ hk => Nat.le_trans (unhide HB).size hk)⟩
end Go.Proofs.Ytdfcdgjmjionbaa
