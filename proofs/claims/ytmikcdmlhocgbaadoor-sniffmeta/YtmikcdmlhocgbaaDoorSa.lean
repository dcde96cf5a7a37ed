/-
  Package sniff's scanner: how it lies in memory, and its small calls.
-/
import Derived.Test.YtmikcdmlhocgbaaDoorLa
import Derived.Lib.Strings
import Derived.Lib.Slices
import Derived.Lib.Walk
import Derived.Lib.Bytealg
namespace Go.Proofs.YtmikcdmlhocgbaaDoor
open Go.RowKit Go.Lib

/-- Only blocks of F were written. -/
structure Mod (F : Nat → Prop) (w w' : World) : Prop where
  os : w'.os = w.os
  tape : w'.tape = w.tape
  output : w'.output = w.output
  size : w.heap.size ≤ w'.heap.size
  block : ∀ k, k < w.heap.size → ¬ F k → w'.heap[k]? = w.heap[k]?
theorem Mod.refl (F : Nat → Prop) (w : World) : Mod F w w := ⟨rfl, rfl, rfl, Nat.le_refl _, fun _ _ _ => rfl⟩
theorem Mod.trans {F : Nat → Prop} {a b c : World} (h : Mod F a b) (k : Mod F b c) : Mod F a c :=
  ⟨k.os.trans h.os, k.tape.trans h.tape, k.output.trans h.output, Nat.le_trans h.size k.size, fun i hi hf => (k.block i (Nat.lt_of_lt_of_le hi h.size) hf).trans (h.block i hi hf)⟩
theorem Mod.of_below {F : Nat → Prop} {w w' : World} (h : Below w.heap.size w w') : Mod F w w' := ⟨h.os, h.tape, h.output, h.size, fun k hk _ => h.block k hk⟩
theorem Mod.setCell {F : Nat → Prop} (w : World) (p : Addr) (v : Value) (hF : F p.block) : Mod F w (w.setCell p v) :=
  ⟨rfl, rfl, rfl, by simp, fun k _ hf => Below.heap_setCell _ _ _ _ (fun e => hf (e ▸ hF))⟩
theorem Mod.mono {F G : Nat → Prop} {w w' : World} (h : Mod F w w') (hFG : ∀ k, k < w.heap.size → F k → G k) : Mod G w w' :=
  ⟨h.os, h.tape, h.output, h.size, fun k hk hg => h.block k hk (fun hf => hg (hFG k hk hf))⟩
theorem Mod.below {F : Nat → Prop} {B : Nat} {w w' : World} (h : Mod F w w') (hB : B ≤ w.heap.size) (hF : ∀ k, F k → B ≤ k) : Below B w w' :=
  ⟨h.os, h.tape, h.output, h.size, fun k hk => h.block k (by omega) (fun hf => by have := hF k hf; omega)⟩
theorem below_dr (w : World) (n : Nat) : Below w.heap.size w (w.drewN n) := below_dn (Below.refl _ _) n

/-- A scanner: its text and its place. -/
def Sc (w : World) (b : Nat) (t : ByteArray) (k : Nat) : Prop := w.heap[b]? = some (.cells #[.string t, .int .i64 (k : Int)] 46 (0, 0))

section
variable {w w' : World} {b : Nat} {t : ByteArray} {k : Nat}
theorem Sc.lt (h : Sc w b t k) : b < w.heap.size := by
  have := h
  unfold Sc at this
  rw [Array.getElem?_eq_some_iff] at this
  exact this.1
theorem Sc.cells (h : Sc w b t k) : w.cell? ⟨b, 0, none⟩ = some (.string t) ∧ w.cell? ⟨b, 1, none⟩ = some (.int .i64 (k : Int)) ∧ (∀ j, w.frozen? ⟨b, j, none⟩ = false) := by
  unfold Sc at h
  refine ⟨?_, ?_, fun j => ?_⟩
  · simp [World.cell?, h]
  · simp [World.cell?, h]
  · simp [World.frozen?, h]
theorem Sc.below (h : Sc w b t k) (hb : Below w.heap.size w w') : Sc w' b t k := by
  unfold Sc
  rw [hb.block b h.lt]
  exact h
theorem Sc.mod {F : Nat → Prop} (h : Sc w b t k) (hm : Mod F w w') (hF : ¬ F b) : Sc w' b t k := by
  unfold Sc
  rw [hm.block b h.lt hF]
  exact h
theorem Sc.dn (h : Sc w b t k) (n : Nat) : Sc (w.drewN n) b t k := h
theorem Sc.set (h : Sc w b t k) (m : Nat) : Sc (w.setCell ⟨b, 1, none⟩ (.int .i64 (m : Int))) b t m := by
  unfold Sc at h ⊢
  simp [World.setCell, Array.getElem?_modify, h]

/-- Whether a byte is there, and is one of those. -/
def amongM (l : List UInt8) (i : Nat) (cs : List UInt8) : Bool := match l[i]? with | some c => cs.contains c | none => false
/-- Whether a byte is there, and is none of those. -/
def outM (l : List UInt8) (i : Nat) (cs : List UInt8) : Bool := match l[i]? with | some c => !cs.contains c | none => false
def letterM (l : List UInt8) (i : Nat) : Bool := match l[i]? with | some c => decide (97 ≤ (low c).toNat ∧ (low c).toNat ≤ 122) | none => false
def seesM (l : List UInt8) (k : Nat) (x : List UInt8) : Bool := decide (((l.drop k).take x.length).map low = x)

set_option maxHeartbeats 1000000 in
set_option maxRecDepth 100000 in
theorem slIndexByte (s : ByteArray) (c : Int) (w : World) :
    Calls Tryd.prog 63 #[.string s, .int .u8 c] w fun e w' => e = .returned (.int .i64 (Lib.indexByte s.data.toList c.toNat.toUInt8)) ∧ w' = w := by
  go_enter Tryd.func63, Tryd.ntmps63
  go_wp2
  rw [run_callFunc_extern Tryd.func78 (by kernel_rfl) (by kernel_rfl) (by kernel_rfl) (e := Extern.BytealgIndexByte.indexByte) (by kernel_rfl), Lib.run_indexByteString]
  simp only [Result.andThen]
  rw [Oper.upon_value]
  go_wp2
  go_ret
  exact ⟨rfl, rfl⟩
theorem indexByte_any (s : ByteArray) (c : Int) (w : World) :
    Calls Tryd.prog 57 #[.string s, .int .u8 c] w fun e w' => e = .returned (.int .i64 (Lib.indexByte s.data.toList c.toNat.toUInt8)) ∧ w' = w := by
  go_enter Tryd.func57, Tryd.ntmps57
  go_wp2_with (go_at_call 63; refine (slIndexByte _ _ _).mono ?_; rintro e w' ⟨rfl, rfl⟩)
  go_ret
  exact ⟨rfl, rfl⟩
theorem indexByte_has (l : List UInt8) (c : UInt8) : decide (0 ≤ Lib.indexByte l c) = l.contains c := by
  induction l with
  | nil => rfl
  | cons b l ih =>
    rw [Lib.indexByte, List.contains_cons]
    by_cases e : b = c
    · subst e; simp
    · have e1 : (b == c) = false := by simpa using e
      have e2 : (c == b) = false := by simpa using fun h => e h.symm
      have := Lib.indexByte_ge l c
      rw [e1, e2, ← ih, if_neg (by simp), Bool.false_or]
      by_cases h : Lib.indexByte l c = -1
      · simp [h]
      · have h1 : (Lib.indexByte l c == -1) = false := by simpa using h
        rw [h1, if_neg (by simp)]
        congr 1
        exact propext ⟨fun _ => by omega, fun _ => by omega⟩

theorem small_any (c : UInt8) (w : World) : Calls Tryd.prog 49 #[.int .u8 c.toNat] w fun e w' => e = .returned (.int .u8 ((low c).toNat : Int)) ∧ w' = w := by
  by_cases h1 : (65 : Int) ≤ (c.toNat : Int)
  · by_cases h2 : (c.toNat : Int) ≤ 90
    · have HE := hide (low_cap c (by omega) (by omega))
      go_enter Tryd.func49, Tryd.ntmps49
      go_wp2
      go_ret
      exact ⟨congrArg (fun v => Ending.returned (Value.int .u8 v)) (by rw [unhide HE]; omega), rfl⟩
    · have HE := hide (low_other c (by omega))
      go_enter Tryd.func49, Tryd.ntmps49
      go_wp2
      go_ret
      exact ⟨congrArg (fun v : UInt8 => Ending.returned (Value.int .u8 (v.toNat : Int))) (unhide HE).symm, rfl⟩
  · have HE := hide (low_other c (by omega))
    go_enter Tryd.func49, Tryd.ntmps49
    go_wp2
    go_ret
    exact ⟨congrArg (fun v : UInt8 => Ending.returned (Value.int .u8 (v.toNat : Int))) (unhide HE).symm, rfl⟩

theorem over_any (h : Sc w b t k) :
    Calls Tryd.prog 20 #[.pointer (some ⟨b, 0, none⟩)] w fun e w' => e = .returned (.bool (decide (t.size ≤ k))) ∧ ∃ n, w' = w.drewN n := by
  obtain ⟨c0, c1, _⟩ := h.cells
  clear h
  go_enter Tryd.func20, Tryd.ntmps20
  go_wp2
  go_quiet (fail)
  go_wp2
  go_ret
  exact ⟨rfl, _, rfl⟩

theorem amongM_of {t : ByteArray} {i : Nat} (hi : i < t.size) (cs : List UInt8) : amongM t.data.toList i cs = cs.contains (t[i]'hi) := by
  unfold amongM
  rw [Lib.data_getElem? t i hi]
theorem amongM_no {t : ByteArray} {i : Nat} (hi : ¬ i < t.size) (cs : List UInt8) : amongM t.data.toList i cs = false := by
  unfold amongM
  rw [List.getElem?_eq_none (by rw [len_data]; omega)]

theorem wrap_add (x y : Int) (h0 : -1000000000000000 < x + y) (h : x + y < 1000000000000000) : IntKind.i64.wrap (x + y) = x + y := by
  simp [IntKind.wrap, IntKind.bits, IntKind.signed]
  omega

theorem among_any (h : Sc w b t k) (on : Nat) (x : ByteArray) (hk : (k : Int) + on < 1000000000000000) :
    Calls Tryd.prog 40 #[.pointer (some ⟨b, 0, none⟩), .int .i64 (on : Int), .string x] w fun e w' => e = .returned (.bool (amongM t.data.toList (k + on) x.data.toList)) ∧ w' = w := by
  obtain ⟨c0, c1, _⟩ := h.cells
  have hw := wrap_add k on (by omega) hk
  have hcast : (k : Int) + (on : Int) = ((k + on : Nat) : Int) := by omega
  rw [hcast] at hw
  clear h hk
  generalize hm : k + on = m at hw hcast ⊢
  clear hm
  by_cases hi : m < t.size
  · have hz : (m : Int) < (t.size : Int) := by omega
    rw [amongM_of hi]
    obtain ⟨c, hc⟩ : ∃ c : UInt8, t[m]'hi = c := ⟨_, rfl⟩
    have HIB : Hid (∀ W, Calls Tryd.prog 57 #[.string x, .int .u8 (c.toNat : Int)] W fun e w' => e = .returned (.int .i64 (Lib.indexByte x.data.toList c)) ∧ w' = W) := hide (fun W => by
      have := indexByte_any x (c.toNat : Int) W
      simpa using this)
    have HH := hide (indexByte_has x.data.toList c)
    rw [hc]
    generalize x.data.toList.contains c = r at HH ⊢
    generalize Lib.indexByte x.data.toList c = q at HIB HH
    go_enter Tryd.func40, Tryd.ntmps40
    go_wp2_with (first | (go_at_call 57; refine ((unhide HIB) _).mono ?_; rintro e w' ⟨rfl, rfl⟩))
    go_ret
    exact ⟨by rw [← unhide HH]; rfl, rfl⟩
  · have hz : ¬ (m : Int) < (t.size : Int) := by omega
    rw [amongM_no hi]
    go_enter Tryd.func40, Tryd.ntmps40
    go_wp2
    go_ret
    exact ⟨rfl, rfl⟩
end
end Go.Proofs.YtmikcdmlhocgbaaDoor
