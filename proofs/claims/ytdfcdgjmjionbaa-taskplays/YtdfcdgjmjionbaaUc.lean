/-
  The document's Ready; whether two lists of numbers are the same.
-/
import Derived.Test.YtdfcdgjmjionbaaUb
import Derived.Deep.LoopGhost
namespace Go.Proofs.Ytdfcdgjmjionbaa
open Go.RowKit Go.Lib

/-- The sources below i that have tasks. -/
def readyT (ls : List (List Jb)) (i : Nat) : List Nat := (List.range i).filter fun s => decide (0 < (ls.getD s []).length)
theorem readyT_succ (ls : List (List Jb)) (i : Nat) : toI (readyT ls (i + 1)) = toI (readyT ls i) ++ (if 0 < (ls.getD i []).length then [(i : Int)] else []) := by
  unfold readyT toI
  rw [List.range_succ, List.filter_append, List.map_append]
  congr 1
  rw [show ([i].filter fun s => decide (0 < (ls.getD s []).length)) = if 0 < (ls.getD i []).length then [i] else [] from by rw [List.filter_cons]; simp only [decide_eq_true_eq, List.filter_nil]]
  split <;> rfl
theorem readyT_le (ls : List (List Jb)) (i : Nat) : (toI (readyT ls i)).length ≤ i := by
  rw [toI_len]
  unfold readyT
  exact Nat.le_trans (List.length_filter_le _ _) (by simp)

set_option maxRecDepth 10000 in
theorem rready_any {w : World} {base rq : Nat} {ls : List (List Jb)} {F : Nat → Prop} (h : RefS w base rq ls F) :
    Calls Try.prog 21 #[.pointer (some ⟨rq, 0, none⟩)] w fun e w' => ∃ a cap, e = .returned (.slice a (toI (readyT ls 4)).length cap) ∧ Below w.heap.size w w' ∧ RowIn w' (fun k => w.heap.size ≤ k) a (intsV (toI (readyT ls 4))) := by
  obtain ⟨_, _, hlen, hsm, _, rows, ps, _, h6, h7, h8, h9, _⟩ := h
  have hrq := lt_of_block h6
  have hrows := lt_of_block h8
  have K0 : Hid (∀ W, Below w.heap.size w W → W.cell? ⟨rq, 0, none⟩ = some (.slice (some ⟨rows, 0, none⟩) 4 4)) := hide fun W hb => (cell_of_row _ _ 0 _ _ _ ((hb.block rq hrq).trans h6)).trans (by rfl)
  have HC : Hid (∀ (i : Nat), i < 4 → ∃ a n c, (∀ W, Below w.heap.size w W → W.cell? ⟨rows, i, none⟩ = some (.slice a n c)) ∧ n ≤ 4096 ∧ n = (ls.getD i []).length) := hide fun i hi => by
    have hp : ps[i]? = some ps[i] := List.getElem?_eq_getElem (by omega)
    obtain ⟨_, hl, _⟩ := h9 i _ hp
    refine ⟨ps[i].a, ps[i].xs.length, ps[i].cap, fun W hb => ?_, hsm _ (List.mem_of_getElem? hl), by simp [List.getD, hl]⟩
    rw [cell_of_row _ _ i _ _ _ ((hb.block rows hrows).trans h8)]
    simp [PartM.val, List.getElem?_eq_getElem (show i < ps.length by omega)]
  obtain ⟨i0, hi0, hz0, hz1, hz2⟩ := info_parts info3
  clear h6 h7 h8 h9 hlen hsm hrq hrows
  go_enter Try.func21, Try.ntmps21
  go_wp2
  go_loopg [3, 4] 4 (fun k s3 s4 wx => ∃ (i : Nat) (z : Int), s4 = .int .i64 z ∧ i + k = 4 ∧ z = (i : Int) ∧ Below w.heap.size w wx ∧ wx.ownsRow w.heap.size 3 1 s3 (toI (readyT ls i)).length (intsV (toI (readyT ls i))))
  case atStart => exact ⟨0, 0, rfl, by omega, rfl, Below.refl _ _, by simp [readyT, toI, intsV], .inl ⟨rfl, rfl⟩⟩
  case round =>
    obtain ⟨i, z, rfl, hik, hz, hb, hown⟩ := hrel
    have HB := hide hb
    have HOWN := hide hown
    have kq := unhide K0 wr hb
    clear hb hown
    by_cases hi : i < 4
    · obtain ⟨a, n, c, hc, hn, hne⟩ := unhide HC i hi
      have kc := hc wr (unhide HB)
      have hz4 : z < 4 := by omega
      have hz0' : 0 ≤ z := by omega
      have hzt : z.toNat = i := by omega
      have HR := hide (readyT_succ ls i)
      have HLE := hide (readyT_le ls i)
      have HI := hide hi
      have HZ := hide (And.intro hz hik)
      generalize toI (readyT ls i) = R at *
      by_cases hp : 0 < n
      · have hpz : (0 : Int) < (n : Int) := by omega
        have HO : Hid (toI (readyT ls (i + 1)) = R ++ [z]) := hide (by rw [unhide HR, ← hne, if_pos hp, hz])
        clear hz hp HR hn hne hc hi hik
        go_wp2_with (at_builtin; go_must (refine wpList_append_lies _ (by rfl) _ _ 42 (by rfl) w.heap.size 3 i0 _ 1 8 Try.underlying42 hi0 hz0 hz1 hz2 rfl (by omega) _ R.length (intsV R) (by rfl) (ownsRow_more (unhide HOWN) (below_new _ _)) ⟨wr.heap.size, 0, none⟩ 1 1 [.int .i64 z] (by rfl) rfl (by intro j u hj; match j, hj with | 0, hj => simp at hj; subst hj; rw [add_at]; exact cell_of_one (heap_alloc_new wr _)) (oneCell_int _) (by omega) (by have := unhide HLE; have := unhide HI; unfold maxLen; omega) (by have := unhide HLE; have := unhide HI; omega) (by have := (unhide HB).size; simp; omega) _ rfl ?_); intro g cap w3 g1 g2 g3 g4; have HG1 := hide g1; have HG2 : Hid (Below w.heap.size w w3) := hide ⟨g2.os.trans (unhide HB).os, g2.tape.trans (unhide HB).tape, g2.output.trans (unhide HB).output, by have := g2.size; have := (unhide HB).size; simp at *; omega, fun k hk => by
              have hk2 := (unhide HB).size
              rw [g2.block k (by simp; omega) (fun e => by have := ownsRow_base (unhide HOWN) e; omega), Below.heap_alloc _ _ _ (by omega)]
              exact (unhide HB).block k hk⟩; clear g1 g2 g3 g4)
        go_roundg (gk - 1)
        case measure => have := (unhide HZ).2; have := unhide HI; omega
        case rel => exact ⟨i + 1, _, by go_num, by have := (unhide HZ).2; have := unhide HI; omega, by have := (unhide HZ).1; omega, unhide HG2, by rw [unhide HO, intsV, List.map_append, List.length_append]; exact unhide HG1⟩
      · have hpz : ¬ (0 : Int) < (n : Int) := by omega
        have HO : Hid (toI (readyT ls (i + 1)) = R) := hide (by rw [unhide HR, ← hne, if_neg hp, List.append_nil])
        clear hz hp HR hn hne hc hi hik
        go_wp2
        go_roundg (gk - 1)
        case measure => have := (unhide HZ).2; have := unhide HI; omega
        case rel => exact ⟨i + 1, _, by go_num, by have := (unhide HZ).2; have := unhide HI; omega, by have := (unhide HZ).1; omega, unhide HB, by rw [unhide HO]; exact unhide HOWN⟩
    · obtain rfl : i = 4 := by omega
      have hz4 : ¬ z < 4 := by omega
      obtain ⟨a, cp, rfl, hr⟩ := ownsRow_row (unhide HOWN)
      have HRR := hide hr
      clear hi hik hz hr HOWN
      go_wp2
      go_ret
      exact ⟨a, ⟨cp, rfl⟩, unhide HB, unhide HRR⟩

theorem ints_any {F G : Nat → Prop} (l : List Int) (a b : Option Addr) (ca cb : Nat) (w : World) (ha : RowIn w F a (intsV l)) (hb : RowIn w G b (intsV l)) (hl : l.length ≤ 4096) :
    Calls Try.prog 19 #[.slice a l.length ca, .slice b l.length cb] w fun e w' => e = .returned (.bool true) ∧ Below w.heap.size w w' := by
  have HA := hide ha
  have HB := hide hb
  have HL := hide hl
  clear ha hb hl
  go_enter Try.func19, Try.ntmps19
  go_wp2
  go_loopg [5] l.length (fun k s5 wx => ∃ (i : Nat) (z : Int), s5 = .int .i64 z ∧ i + k = l.length ∧ z = (i : Int) ∧ Below w.heap.size w wx)
  case atStart => exact ⟨0, 0, rfl, by omega, rfl, Below.refl _ _⟩
  case round =>
    obtain ⟨i, z, rfl, hik, hz, hb⟩ := hrel
    have HBX := hide hb
    by_cases hi : i < l.length
    · obtain ⟨v, hv⟩ : ∃ v, l[i]? = some v := ⟨_, List.getElem?_eq_getElem hi⟩
      obtain ⟨b1, o1, rfl, _, c1⟩ := ((unhide HA).below hb) i (.int .i64 v) (by unfold intsV; rw [List.getElem?_map, hv]; rfl)
      obtain ⟨b2, o2, rfl, _, c2⟩ := ((unhide HB).below hb) i (.int .i64 v) (by unfold intsV; rw [List.getElem?_map, hv]; rfl)
      have hzl : z < (l.length : Int) := by omega
      have hz0 : 0 ≤ z := by omega
      have hz9 : z < 4096 := by have := unhide HL; omega
      have hzt : z.toNat = i := by omega
      have HZ := hide (And.intro hz hik)
      clear hz hik hi hv hb
      go_wp2
      go_region
      go_wp2
      go_roundg (gk - 1)
      case measure => have := (unhide HZ).2; have := (unhide HZ).1; omega
      case rel => exact ⟨i + 1, _, by go_num, by have := (unhide HZ).2; have := (unhide HZ).1; omega, by have := (unhide HZ).1; omega, (unhide HBX).drew⟩
    · have hzl : ¬ z < (l.length : Int) := by omega
      clear hz hik hi hb
      go_wp2
      go_ret
      exact ⟨rfl, unhide HBX⟩
end Go.Proofs.Ytdfcdgjmjionbaa
