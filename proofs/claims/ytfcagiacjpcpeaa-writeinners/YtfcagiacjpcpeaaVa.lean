/-
  Package write's writer: the text so far in memory; put: texts one behind the other.
-/
import Derived.Test.YtfcagiacjpcpeaaEf
import Derived.Defers
namespace Go.Proofs.Ytfcagiacjpcpeaa
open Go.RowKit Go.Lib

/-- The writer in the block bw: the arena, the flag, the text so far. -/
def Wr (bA : Nat) (sc : Bool) (B bw : Nat) (l : List UInt8) (w : World) : Prop :=
  IsBld [.pointer (some ⟨bA, 0, none⟩), .bool sc] 67 2 B bw l w
theorem bokW (bA : Nat) (sc : Bool) : BOk [.pointer (some ⟨bA, 0, none⟩), .bool sc] 67 2 := ⟨rfl, by kernel_rfl, by decide⟩
/-- What a call of the writer leaves: all that lies below B, and of the rest all but the writer and rows of bytes. -/
structure Nx (B bw : Nat) (w w' : World) : Prop where
  below : Below B w w'
  kept : OthersKept 5 (some bw) w w'
section
variable {B bw : Nat} {a w w' : World}
theorem Nx.refl (B bw : Nat) (w : World) : Nx B bw w w := ⟨Below.refl _ _, OthersKept.refl _ _ _⟩
theorem Nx.trans (h : Nx B bw a w) (k : Nx B bw w w') : Nx B bw a w' := ⟨h.below.trans k.below, h.kept.trans k.kept⟩
theorem Nx.alloc (h : Nx B bw a w) (hB : B ≤ a.heap.size) (o : Obj) : Nx B bw a (w.alloc o) := ⟨h.below.alloc (Nat.le_trans hB h.below.size) o, h.kept.alloc o⟩
theorem Nx.drewN (h : Nx B bw a w) (n : Nat) : Nx B bw a (w.drewN n) := ⟨below_dn h.below n, h.kept⟩
theorem Nx.size (h : Nx B bw a w) : a.heap.size ≤ w.heap.size := h.below.size
theorem Nx.new (h : Below a.heap.size a w) (hB : B ≤ a.heap.size) : Nx B bw a w :=
  ⟨h.mono hB, fun k _ hk _ _ => (h.block k (lt_of_block hk)).trans hk⟩
theorem Nx.set (h : Nx B bw a w) (hB : B ≤ a.heap.size) {k : Nat} (hk : a.heap.size ≤ k) (i : Nat) (v : Value) : Nx B bw a (w.setCell ⟨k, i, none⟩ v) :=
  ⟨h.below.setCell (p := ⟨k, i, none⟩) (Nat.le_trans hB hk) v, fun j o hj hb ho => by
    have hlt : j < a.heap.size := (Array.getElem?_eq_some_iff.1 hj).1
    rw [Below.heap_setCell _ _ _ _ (by show j ≠ k; omega)]
    exact h.kept j o hj hb ho⟩
theorem Nx.block (h : Nx B bw a w) {k : Nat} {c : Array Value} {t : TypeId} {fz : Nat × Nat} (hk : a.heap[k]? = some (.cells c t fz)) (hb : k ≠ bw) (ht : t ≠ 5) : w.heap[k]? = some (.cells c t fz) :=
  h.kept k _ hk (by intro e; injection e with e; exact hb e) (fun c' fz' e => by cases e; exact ht rfl)
end

theorem Bld.more {pre : List Value} {T : TypeId} {B b : Nat} {p : Value} {l : List UInt8} {w w' : World} (h : Bld pre T B b p l w) (hb : Below w.heap.size w w') : Bld pre T B b p l w' := by
  have hlt := h.lt
  obtain ⟨v, hk, hown, hne⟩ := h.ex
  exact ⟨h.base, v, (hb.block _ hlt).trans hk, hown.kept (row := none) ⟨hb.os, hb.tape, hb.output, hb.size, fun k hk _ => hb.block k hk⟩ (by cases hv : v.ownBlock <;> simp), hne⟩
theorem Wr.more {bA : Nat} {sc : Bool} {B bw : Nat} {l : List UInt8} {w w' : World} (h : Wr bA sc B bw l w) (hb : Below w.heap.size w w') : Wr bA sc B bw l w' := h.elim (fun h => .inl (h.more hb)) (fun h => .inr (h.more hb))
theorem Wr.lt {bA : Nat} {sc : Bool} {B bw : Nat} {l : List UInt8} {w : World} (h : Wr bA sc B bw l w) : bw < w.heap.size := IsBld.lt h
theorem Wr.drewN {bA : Nat} {sc : Bool} {B bw : Nat} {l : List UInt8} {w : World} (h : Wr bA sc B bw l w) (n : Nat) : Wr bA sc B bw l (w.drewN n) := IsBld.drewN h n
theorem Wr.alloc {bA : Nat} {sc : Bool} {B bw : Nat} {l : List UInt8} {w : World} (h : Wr bA sc B bw l w) (o : Obj) : Wr bA sc B bw l (w.alloc o) := IsBld.alloc h o

def catL (ps : List ByteArray) : List UInt8 := ps.flatMap (·.data.toList)
theorem catL_take (ps : List ByteArray) (j : Nat) (s : ByteArray) (h : ps[j]? = some s) : catL (ps.take (j + 1)) = catL (ps.take j) ++ s.data.toList := by
  unfold catL
  rw [List.take_add_one, h]
  simp
theorem catL_le (ps : List ByteArray) (j : Nat) : (catL (ps.take j)).length ≤ (catL ps).length := by
  have h : catL ps = catL (ps.take j) ++ catL (ps.drop j) := by unfold catL; rw [← List.flatMap_append, List.take_append_drop]
  rw [h, List.length_append]; omega

set_option maxHeartbeats 2000000 in
theorem put_any {bA : Nat} {sc : Bool} {B bw g : Nat} {l : List UInt8} {w : World} (ps : List ByteArray) (h : Wr bA sc B bw l w) (hg : w.heap[g]? = some (.cells (sRow ps) 9 (0, 0))) (hgb : g ≠ bw) (hp : ps.length ≤ 1000) (hlen : l.length + (catL ps).length ≤ 140737488355328) (hB : B ≤ w.heap.size) :
    Calls Try.prog 69 #[.pointer (some ⟨bw, 0, none⟩), .slice (some ⟨g, 0, none⟩) ps.length ps.length] w fun e w' => e = .returned (.tuple #[]) ∧ Wr bA sc B bw (l ++ catL ps) w' ∧ Nx B bw w w' := by
  have HG := hidE hg
  have HW := hidE h
  have HLEN := hidE hlen
  have hpz : (ps.length : Int) ≤ 1000 := by omega
  clear h hg hlen
  go_enter Try.func69, Try.ntmps69
  go_wp2
  go_loopg [5, 8] ps.length (fun k _ s8 wx => ∃ j : Nat, s8 = .int .i64 j ∧ j + k = ps.length ∧ Wr bA sc B bw (l ++ catL (ps.take j)) wx ∧ Nx B bw w wx)
  case atStart => exact ⟨0, rfl, by omega, by simpa [catL] using unhidE HW, Nx.refl _ _ _⟩
  case round =>
    obtain ⟨j, rfl, hjk, hw, hn⟩ := hrel
    by_cases hj : j < ps.length
    · have hjz : (j : Int) < (ps.length : Int) := by omega
      obtain ⟨s, hs⟩ : ∃ s, ps[j]? = some s := ⟨_, List.getElem?_eq_getElem hj⟩
      have hcell : wr.cell? ⟨g, j, none⟩ = some (.string s) := by
        rw [cell_row _ g j _ _ _ (hn.block (unhidE HG) hgb (by decide))]
        simp [sRow, hs]
      have hct := catL_take ps j s hs
      have hle := catL_le ps (j + 1)
      rw [hct, List.length_append, len_data] at hle
      have HC : Hid (Calls Try.prog 62 #[.pointer (some ⟨bw, 2, none⟩), .string s] wr _) := hidE (write_any (bokW bA sc) s hw (by rw [List.length_append]; have := unhidE HLEN; omega) (Nat.le_trans hB hn.size))
      have HN := hidE hn
      have HCT := hidE hct
      clear hw hn hct hle hs
      go_wp2_with (go_at_call 62; refine (unhidE HC).mono ?_; rintro e w3 ⟨rfl, hB3, hb3, hk3⟩; have HB3 := hidE hB3; have HN3 := hidE ((unhidE HN).trans ⟨hb3, hk3⟩); clear hB3 hb3 hk3)
      go_roundg (gk - 1)
      case measure => omega
      case rel => exact ⟨j + 1, by go_num, by omega, .inr (by rw [unhidE HCT, ← List.append_assoc]; exact unhidE HB3), unhidE HN3⟩
    · have hjz : ¬ (j : Int) < (ps.length : Int) := by omega
      obtain rfl : j = ps.length := by omega
      rw [List.take_length] at hw
      have HW2 := hidE hw
      have HN := hidE hn
      clear hw hn
      go_wp2
      go_end0
      exact ⟨rfl, unhidE HW2, unhidE HN⟩
set_option maxHeartbeats 2000000 in
theorem put_deferred {bA : Nat} {sc : Bool} {B bw g : Nat} {l : List UInt8} {w : World} (ps : List ByteArray) (h : Wr bA sc B bw l w) (hg : w.heap[g]? = some (.cells (sRow ps) 9 (0, 0))) (hgb : g ≠ bw) (hp : ps.length ≤ 1000) (hlen : l.length + (catL ps).length ≤ 140737488355328) (hB : B ≤ w.heap.size) (u : FrameMode) :
    CallsD Try.prog 69 #[.pointer (some ⟨bw, 0, none⟩), .slice (some ⟨g, 0, none⟩) ps.length ps.length] u w fun e u' w' => u' = u ∧ (e = .returned (.tuple #[]) ∧ Wr bA sc B bw (l ++ catL ps) w' ∧ Nx B bw w w') := by
  have HG := hidE hg
  have HW := hidE h
  have HLEN := hidE hlen
  have hpz : (ps.length : Int) ≤ 1000 := by omega
  clear h hg hlen
  go_enter_d Try.func69, Try.ntmps69
  go_wp2
  go_loopg [5, 8] ps.length (fun k _ s8 wx => ∃ j : Nat, s8 = .int .i64 j ∧ j + k = ps.length ∧ Wr bA sc B bw (l ++ catL (ps.take j)) wx ∧ Nx B bw w wx)
  case atStart => exact ⟨0, rfl, by omega, by simpa [catL] using unhidE HW, Nx.refl _ _ _⟩
  case round =>
    obtain ⟨j, rfl, hjk, hw, hn⟩ := hrel
    by_cases hj : j < ps.length
    · have hjz : (j : Int) < (ps.length : Int) := by omega
      obtain ⟨s, hs⟩ : ∃ s, ps[j]? = some s := ⟨_, List.getElem?_eq_getElem hj⟩
      have hcell : wr.cell? ⟨g, j, none⟩ = some (.string s) := by
        rw [cell_row _ g j _ _ _ (hn.block (unhidE HG) hgb (by decide))]
        simp [sRow, hs]
      have hct := catL_take ps j s hs
      have hle := catL_le ps (j + 1)
      rw [hct, List.length_append, len_data] at hle
      have HC : Hid (Calls Try.prog 62 #[.pointer (some ⟨bw, 2, none⟩), .string s] wr _) := hidE (write_any (bokW bA sc) s hw (by rw [List.length_append]; have := unhidE HLEN; omega) (Nat.le_trans hB hn.size))
      have HN := hidE hn
      have HCT := hidE hct
      clear hw hn hct hle hs
      go_wp2_with (go_at_call 62; refine (unhidE HC).mono ?_; rintro e w3 ⟨rfl, hB3, hb3, hk3⟩; have HB3 := hidE hB3; have HN3 := hidE ((unhidE HN).trans ⟨hb3, hk3⟩); clear hB3 hb3 hk3)
      go_roundg (gk - 1)
      case measure => omega
      case rel => exact ⟨j + 1, by go_num, by omega, .inr (by rw [unhidE HCT, ← List.append_assoc]; exact unhidE HB3), unhidE HN3⟩
    · have hjz : ¬ (j : Int) < (ps.length : Int) := by omega
      obtain rfl : j = ps.length := by omega
      rw [List.take_length] at hw
      have HW2 := hidE hw
      have HN := hidE hn
      clear hw hn
      go_wp2
      exact ⟨rfl, _, results_none rfl _ _ _, rfl, unhidE HW2, unhidE HN⟩
end Go.Proofs.Ytfcagiacjpcpeaa
