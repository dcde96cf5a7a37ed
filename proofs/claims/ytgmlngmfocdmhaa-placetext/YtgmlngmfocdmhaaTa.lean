/-
  Package decode: UTF8: the bytes of code points (the shelf's laying of utf8.AppendRune, in plain words, off this seat's dump).
-/
import Derived.Shelf.Utf8.AppendRunePlain
import Derived.Laws.Cover4
import Derived.Deep.LoopGhost
import Derived.Test.YtgmlngmfocdmhaaTb
import Derived.Test.YtgmlngmfocdmhaaJC
namespace Go.Proofs
open Go.Shelf
def Try.lays242_ren : Go.Shelf.Ren := ⟨fun | 242 => 28 | 278 => 35 | n => n, fun | 37 => 55 | 21 => 21 | 51 => 77 | 4 => 4 | 5 => 5 | 46 => 81 | n => n, fun | n => n⟩
theorem Try.lays242 : Go.Proofs.Lays.n242 Try.prog Try.lays242_ren := {
  mixed := by kernel_rfl
  f242 := Try.func28.trans (congrArg some (by kernel_rfl))
  f278 := Try.func35.trans (congrArg some (by kernel_rfl))
  t4 := Try.underlying4
  a4 := Try.isAgg4
  z4 := Try.sizeOf4
  v4 := Try.zeroValue4
  t5 := Try.underlying5
  a5 := Try.isAgg5
  z5 := Try.sizeOf5
  v5 := Try.zeroValue5
  t21 := Try.underlying21
  a21 := Try.isAgg21
  z21 := Try.sizeOf21
  v21 := Try.zeroValue21
  t37 := Try.underlying55
  a37 := Try.isAgg55
  z37 := Try.sizeOf55
  v37 := Try.zeroValue55
  t46 := Try.underlying81
  a46 := Try.isAgg81
  z46 := Try.sizeOf81
  v46 := Try.zeroValue81
  t51 := Try.underlying77
  a51 := Try.isAgg77
  z51 := Try.sizeOf77
  v51 := Try.zeroValue77 }
end Go.Proofs
namespace Go.Proofs.Ytgmlngmfocdmhaa
open Go.RowKit

/-- The bytes of code points. -/
def encL (l : List Int) : List UInt8 := l.flatMap Lib.encodeRune
theorem encL_append (l m : List Int) : encL (l ++ m) = encL l ++ encL m := by simp [encL]
theorem encL_len (l : List Int) : l.length ≤ (encL l).length ∧ (encL l).length ≤ 4 * l.length := by
  induction l with
  | nil => simp [encL]
  | cons x l ih =>
    have h := Lib.runeCells_le x
    rw [Lib.runeCells_length] at h
    have e : encL (x :: l) = Lib.encodeRune x ++ encL l := rfl
    rw [e, List.length_append, List.length_cons]
    omega
theorem Try.info5 : (Try.prog.info? 5).map (fun i => (i.zero, i.size, i.bytes)) = some (some (.int .u8 0), 1, 1) := by kernel_rfl
theorem encode_eq (r : Int) : (Utf8.encode r).data.toList = Lib.encodeRune r := by
  by_cases c1 : 0 ≤ r ∧ r ≤ 127
  · have hv : Utf8.valid r = true := by unfold Utf8.valid; simp; omega
    rw [Lib.encodeRune, Lib.encodeRuneZ_one c1.1 c1.2]
    unfold Utf8.encode
    simp only [hv, if_true]
    rw [if_pos (by omega)]
    rfl
  · by_cases c2 : 128 ≤ r ∧ r ≤ 2047
    · have hv : Utf8.valid r = true := by unfold Utf8.valid; simp; omega
      rw [Lib.encodeRune, Lib.encodeRuneZ_two c2.1 c2.2]
      unfold Utf8.encode
      simp only [hv, if_true]
      rw [if_neg (by omega), if_pos (by omega)]
      have e1 : (192 + r / 64).toNat = 192 + r.toNat / 64 := by omega
      have e2 : (128 + r % 64).toNat = 128 + r.toNat % 64 := by omega
      simp only [List.map_cons, List.map_nil, e1, e2]
    · by_cases c3 : (2048 ≤ r ∧ r < 55296) ∨ (57343 < r ∧ r ≤ 65535)
      · have hv : Utf8.valid r = true := by unfold Utf8.valid; simp; omega
        rw [Lib.encodeRune, Lib.encodeRuneZ_three c3]
        unfold Utf8.encode
        simp only [hv, if_true]
        rw [if_neg (by omega), if_neg (by omega), if_pos (by omega)]
        have e1 : (224 + r / 4096).toNat = 224 + r.toNat / 4096 := by omega
        have e2 : (128 + r / 64 % 64).toNat = 128 + r.toNat / 64 % 64 := by omega
        have e3 : (128 + r % 64).toNat = 128 + r.toNat % 64 := by omega
        simp only [List.map_cons, List.map_nil, e1, e2, e3]
      · by_cases c4 : 65536 ≤ r ∧ r ≤ 1114111
        · have hv : Utf8.valid r = true := by unfold Utf8.valid; simp; omega
          rw [Lib.encodeRune, Lib.encodeRuneZ_four c4.1 c4.2]
          unfold Utf8.encode
          simp only [hv, if_true]
          rw [if_neg (by omega), if_neg (by omega), if_neg (by omega)]
          have e1 : (240 + r / 262144).toNat = 240 + r.toNat / 262144 := by omega
          have e2 : (128 + r / 4096 % 64).toNat = 128 + r.toNat / 4096 % 64 := by omega
          have e3 : (128 + r / 64 % 64).toNat = 128 + r.toNat / 64 % 64 := by omega
          have e4 : (128 + r % 64).toNat = 128 + r.toNat % 64 := by omega
          simp only [List.map_cons, List.map_nil, e1, e2, e3, e4]
        · have hv : Utf8.valid r = false := by unfold Utf8.valid; simp; omega
          rw [Lib.encodeRune, Lib.encodeRuneZ_bad (by omega)]
          unfold Utf8.encode
          simp only [hv, Bool.false_eq_true, if_false]
          decide +kernel
theorem append_any {w W : World} {v : Value} {n : Nat} {bs : List UInt8} (r : Int) (h0 : -2147483648 ≤ r) (h1 : r ≤ 2147483647) (hown : W.ownsRow w.heap.size 5 1 v n (Lib.byteCells bs)) (hn : n + 4 ≤ 140737488355328) (hb : Below w.heap.size w W) :
    Calls Try.prog 28 #[v, .int .i32 r] W fun e w' => ∃ v', e = .returned v' ∧ w'.ownsRow w.heap.size 5 1 v' (n + (Lib.encodeRune r).length) (Lib.byteCells (bs ++ Lib.encodeRune r)) ∧ Below w.heap.size w w' := by
  have h : Calls Try.prog 28 #[v, .int .i32 r] W fun e w' => ∃ v', e = .returned v' ∧ w'.ownsRow w.heap.size 5 1 v' (n + (Lib.runeCells r).length) (Lib.byteCells bs ++ Lib.runeCells r) ∧ ∃ o, (W.alloc o).grownBy w' v.ownBlock :=
    Any.utf8_AppendRune_plain Try.lays242 Try.info5 w.heap.size v n (Lib.byteCells bs) r h0 h1 W hown hn hb.size
  refine h.mono ?_
  rintro e w' ⟨v', rfl, ho, o, hg⟩
  refine ⟨v', rfl, ?_, ?_⟩
  · rw [Lib.runeCells_length, ← Lib.byteCells_encodeRune] at ho
    have e : Lib.byteCells (bs ++ Lib.encodeRune r) = Lib.byteCells bs ++ Lib.byteCells (Lib.encodeRune r) := by simp [Lib.byteCells]
    rw [e]
    exact ho
  · have hm := Mod.grown (F := fun k => w.heap.size ≤ k) hg (fun k hk => (ownsRow_base hown hk).1)
    exact (hb.alloc hb.size o).trans (hm.below (Nat.le_trans hb.size (by simp)) (fun k hk => hk))

set_option maxHeartbeats 1000000 in
set_option maxRecDepth 100000 in
theorem utf8_any {w : World} {a : Option Addr} {l : List Int} (hin : RunesIn w a l) (hl : l.length ≤ 100000) (cap : Nat) :
    Calls Try.prog 18 #[.slice a l.length cap] w fun e w' => ∃ v, e = .returned v ∧ w'.ownsRow w.heap.size 5 1 v (encL l).length (Lib.byteCells (encL l)) ∧ Below w.heap.size w w' := by
  have HIN := hide hin
  have hlz : (l.length : Int) ≤ 100000 := by omega
  obtain ⟨i0, hi0, hz0, hz1, hz2⟩ := info_parts Try.info5
  obtain ⟨w1, hmk, hown, hgr⟩ := run_make_own (P := Try.prog) w w.heap.size 55 5 i0 (.int .u8 0) 1 Try.underlying55 hi0 hz0 hz1 .i64 .i64 l.length (by rw [hz2]; omega) (by unfold maxLen; omega) (Nat.le_refl _)
  have HOWN := hide hown
  have HGR := hide hgr
  clear hin hl hi0 hz0 hz1 hz2 hown hgr
  go_enter Try.func18, Try.ntmps18
  go_wp2
  go_loopg [3, 5, 11] l.length (fun g s3 _ s11 wr => ∃ j : Nat, j + g = l.length ∧ s11 = .int .i64 j ∧ wr.ownsRow w.heap.size 5 1 s3 (encL (l.take j)).length (Lib.byteCells (encL (l.take j))) ∧ Below w.heap.size w wr)
  case atStart =>
    refine ⟨0, by omega, rfl, ?_, (Mod.grown (F := fun _ => False) (unhide HGR) (fun k hk => by cases hk)).below (Nat.le_refl _) (fun k hk => hk.elim)⟩
    exact unhide HOWN
  case round =>
    obtain ⟨j, hjg, rfl, hown, hbel⟩ := hrel
    have HO := hide hown
    have HB := hide hbel
    clear hown hbel
    by_cases hj : j < l.length
    · have hjz : (j : Int) < (l.length : Int) := by omega
      obtain ⟨y, hy⟩ : ∃ y, l[j]? = some y := ⟨_, List.getElem?_eq_getElem hj⟩
      obtain ⟨⟨b, off, ea, _⟩, hy0, hy1⟩ := (unhide HIN) j y hy
      obtain ⟨⟨b', off', ea', hcell⟩, _⟩ := ((unhide HIN).below (unhide HB)) j y hy
      subst ea
      cases ea'
      have hroom : (encL (l.take j)).length + 4 ≤ 140737488355328 := by
        have h1 := (encL_len (l.take j)).2
        have h2 : (l.take j).length ≤ l.length := by rw [List.length_take]; omega
        omega
      have HAR := hide (append_any y hy0 hy1 (unhide HO) hroom (unhide HB))
      clear hroom
      have HN : Hid (encL (l.take (j + 1)) = encL (l.take j) ++ Lib.encodeRune y) := hide (by
        obtain ⟨hlt, rfl⟩ := List.getElem?_eq_some_iff.1 hy
        rw [List.take_succ_eq_append_getElem hlt, encL_append]
        simp [encL])
      clear hy hy0 hy1
      go_wp2_with (go_at_call 28; refine (unhide HAR).mono ?_; rintro e w2 ⟨v2, rfl, ho2, hb2⟩; have HO2 := hide ho2; have HB2 := hide hb2; clear ho2 hb2)
      go_roundg (gk - 1)
      case measure => omega
      case rel => exact ⟨j + 1, by omega, by go_num, by rw [unhide HN, List.length_append]; exact unhide HO2, unhide HB2⟩
    · have hjz : ¬ (j : Int) < (l.length : Int) := by omega
      obtain rfl : j = l.length := by omega
      have HF : Hid (l.take l.length = l) := hide List.take_length
      rw [unhide HF] at HO
      go_wp2
      go_ret
      exact ⟨_, rfl, unhide HO, unhide HB⟩

theorem runesBytes_eq (l : List Int) : (runesBytes l).data.toList = encL l := by
  have key : ∀ (l : List Int) (s : ByteArray), (l.foldl (fun r n => r ++ Utf8.encode n) s).data.toList = s.data.toList ++ encL l := by
    intro l
    induction l with
    | nil => intro s; simp [encL]
    | cons x l ih =>
      intro s
      rw [List.foldl_cons, ih]
      have e : encL (x :: l) = Lib.encodeRune x ++ encL l := rfl
      rw [e, ← encode_eq, ← List.append_assoc]
      congr 1
  have := key l ByteArray.empty
  simpa [runesBytes] using this
end Go.Proofs.Ytgmlngmfocdmhaa
