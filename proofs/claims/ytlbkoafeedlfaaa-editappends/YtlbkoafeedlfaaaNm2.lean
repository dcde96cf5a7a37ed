/-
  strings.ContainsAny of a short text, whatever its bytes, and the bytes that no name has.
-/
import Derived.Test.YtlbkoafeedlfaaaNm
import Derived.Lib.OthersKept
namespace Go.Proofs.Ytlbkoafeedlfaaa
open Go.RowKit Go.Lib

theorem get_data (s : ByteArray) (i : Nat) (b : UInt8) (h : s.data.toList[i]? = some b) : i < s.size ∧ s.get! i = b := by
  obtain ⟨hi, hb⟩ := List.getElem?_eq_some_iff.1 h
  have hi' : i < s.size := by simpa using hi
  refine ⟨hi', ?_⟩
  have := get_at s i hi'
  rw [Nat.add_zero] at this
  rw [this, ← hb]; rfl

theorem decode_cover (s : ByteArray) (pos : Nat) (h : pos < s.size) (ha : 128 ≤ (s[pos]'h).toNat) :
    pos + (Utf8.decode s pos).2 ≤ s.size ∧ (∀ j b, j < (Utf8.decode s pos).2 → s.data.toList[pos + j]? = some b → 128 ≤ b.toNat) ∧ ((Utf8.decode s pos).1 = 65533 ∨ Utf8.valid (Utf8.decode s pos).1 = true) := by
  have hn : ¬ (s[pos]'h).toNat < 128 := by omega
  have hg : ∀ j b, s.data.toList[pos + j]? = some b → s.get! (pos + j) = b := fun j b hb => (get_data s (pos + j) b hb).2
  have one : ∀ j b, j < 1 → s.data.toList[pos + j]? = some b → 128 ≤ b.toNat := by
    intro j b hj hb
    obtain rfl : j = 0 := by omega
    have h1 := hg 0 b hb
    rw [get_at s pos h] at h1
    rw [← h1]; exact ha
  have step : ∀ (k : Nat), (pos + k < s.size && (s.get! (pos + k)).toNat / 64 == 2) = true → pos + k < s.size ∧ ∀ b, s.data.toList[pos + k]? = some b → 128 ≤ b.toNat := by
    intro k hk
    simp only [Bool.and_eq_true, decide_eq_true_eq, beq_iff_eq] at hk
    refine ⟨hk.1, fun b hb => ?_⟩
    have := hg k b hb
    rw [this] at hk
    omega
  simp only [Utf8.decode, get_at s pos h, hn, if_false]
  split
  · rename_i hc
    rw [Bool.and_eq_true] at hc
    obtain ⟨s1, b1⟩ := step 1 hc.2
    split
    · rename_i hc2
      refine ⟨by show pos + 2 ≤ s.size; omega, ?_, .inr ?_⟩
      · intro j b hj hb
        change j < 2 at hj
        rcases (by omega : j = 0 ∨ j = 1) with rfl | rfl
        · exact one 0 b (by omega) hb
        · exact b1 b hb
      · have h0 : (s[pos]'h).toNat < 256 := (s[pos]'h).toNat_lt
        simp only [Utf8.valid, Bool.or_eq_true, Bool.and_eq_true, decide_eq_true_eq]
        left
        constructor
        · omega
        · omega
    · exact ⟨by show pos + 1 ≤ s.size; omega, one, .inl rfl⟩
  · split
    · rename_i hc
      simp only [Bool.and_eq_true] at hc
      obtain ⟨s1, b1⟩ := step 1 (by simpa using hc.1.2)
      obtain ⟨s2, b2⟩ := step 2 (by simpa using hc.2)
      split
      · rename_i hc2
        rw [Bool.and_eq_true] at hc2
        refine ⟨by show pos + 3 ≤ s.size; omega, ?_, .inr hc2.2⟩
        intro j b hj hb
        change j < 3 at hj
        rcases (by omega : j = 0 ∨ j = 1 ∨ j = 2) with rfl | rfl | rfl
        · exact one 0 b (by omega) hb
        · exact b1 b hb
        · exact b2 b hb
      · exact ⟨by show pos + 1 ≤ s.size; omega, one, .inl rfl⟩
    · split
      · rename_i hc
        simp only [Bool.and_eq_true] at hc
        obtain ⟨s1, b1⟩ := step 1 (by simpa using hc.1.1.2)
        obtain ⟨s2, b2⟩ := step 2 (by simpa using hc.1.2)
        obtain ⟨s3, b3⟩ := step 3 (by simpa using hc.2)
        split
        · rename_i hc2
          rw [Bool.and_eq_true] at hc2
          refine ⟨by show pos + 4 ≤ s.size; omega, ?_, .inr hc2.2⟩
          intro j b hj hb
          change j < 4 at hj
          rcases (by omega : j = 0 ∨ j = 1 ∨ j = 2 ∨ j = 3) with rfl | rfl | rfl | rfl
          · exact one 0 b (by omega) hb
          · exact b1 b hb
          · exact b2 b hb
          · exact b3 b hb
        · exact ⟨by show pos + 1 ≤ s.size; omega, one, .inl rfl⟩
      · exact ⟨by show pos + 1 ≤ s.size; omega, one, .inl rfl⟩

theorem noName_mem (b : UInt8) (h : b ∈ noName.data.toList) : b.toNat < 128 := by
  obtain ⟨j, hj⟩ := List.mem_iff_getElem?.1 h
  exact noName_ascii j b hj

/-- What IndexRune answers of the code point that stands at a place. -/
theorem indexRune_at (s : ByteArray) (i : Nat) (hi : i < s.size) (w : World) :
    ∃ v : Int, (Calls Try.prog 152 #[.string noName, .int .i32 ((Utf8.decode s i).1 : Int)] w fun e w' => e = .returned (.int .i64 v) ∧ Below w.heap.size w w') ∧
      ((0 ≤ v ∧ noName.data.toList.contains (s[i]'hi) = true) ∨ (v = -1 ∧ i + (Utf8.decode s i).2 ≤ s.size ∧ 1 ≤ (Utf8.decode s i).2 ∧ ∀ j b, j < (Utf8.decode s i).2 → s.data.toList[i + j]? = some b → noName.data.toList.contains b = false)) := by
  by_cases ha : (s[i]'hi).toNat < 128
  · rw [decode_ascii s i hi ha]
    have hb : (((s[i]'hi).toNat : Int)).toNat.toUInt8 = s[i]'hi := by simp
    have hc := Try.strings_IndexRune_ascii noName ((s[i]'hi).toNat : Int) w (by omega) (by omega)
    rw [hb] at hc
    refine ⟨_, hc.mono fun e w' ⟨h1, h2⟩ => ⟨h1, h2 ▸ Below.refl _ _⟩, ?_⟩
    have hcon := Lib.contains_iff_indexByte noName.data.toList (s[i]'hi)
    cases hin : noName.data.toList.contains (s[i]'hi) with
    | true =>
      rw [hin] at hcon
      exact .inl ⟨of_decide_eq_true hcon.symm, rfl⟩
    | false =>
      rw [hin] at hcon
      have h1 := of_decide_eq_false hcon.symm
      have h2 : -1 ≤ Lib.indexByte noName.data.toList (s[i]'hi) := by
        have := Lib.indexAny_ge [s[i]'hi] noName.data.toList
        rw [Lib.indexAny_one] at this; exact this
      refine .inr ⟨by omega, by show i + 1 ≤ s.size; omega, Nat.le_refl _, fun j b hj hbj => ?_⟩
      obtain rfl : j = 0 := by change j < 1 at hj; omega
      have := Lib.data_getElem? s i hi
      rw [Nat.add_zero, this] at hbj
      cases hbj; exact hin
  · have hh := decode_high s i hi (by omega)
    obtain ⟨c1, c2, c3⟩ := decode_cover s i hi (by omega)
    have far : ∀ j b, j < (Utf8.decode s i).2 → s.data.toList[i + j]? = some b → noName.data.toList.contains b = false := by
      intro j b hj hb
      have := c2 j b hj hb
      rw [Bool.eq_false_iff]; intro hm
      have := noName_mem b (by simpa using hm); omega
    by_cases hb : (Utf8.decode s i).1 = 65533
    · refine ⟨-1, ?_, .inr ⟨rfl, c1, hh.2, far⟩⟩
      rw [hb]; exact indexRune_bad w
    · refine ⟨-1, ?_, .inr ⟨rfl, c1, hh.2, far⟩⟩
      refine indexRune_valid1 noName rfl noName_mem _ (by omega) ?_ (by omega) w
      rcases c3 with h | h
      · exact absurd h hb
      · exact h

theorem below_iterAt {B : Nat} {a w : World} (h : Below B a w) (k : Nat) (hk : B ≤ k) (s : ByteArray) (pos : Nat) : Below B a (w.iterAt k s pos) :=
  h.trans ⟨rfl, rfl, rfl, by simp [World.iterAt], fun j hj => by simp only [World.iterAt]; rw [Array.getElem?_setIfInBounds_ne (by omega)]⟩

set_option maxHeartbeats 4000000 in
set_option maxRecDepth 10000 in
theorem indexAny_short (s : ByteArray) (w : World) (h8 : s.size ≤ 8) :
    Calls Try.prog 147 #[.string s, .string noName] w fun e w' => e = .returned (.int .i64 (Lib.indexAny s.data.toList noName.data.toList)) ∧ Below w.heap.size w w' := by
  have h8z : decide ((8 : Int) < (s.size : Int)) = false := decide_eq_false (by omega)
  generalize hnn : noName = cs
  have hcz : cs.size = 12 := by rw [← hnn]; rfl
  have hemp : cs.toList.isEmpty = false := by rw [← hnn, Lib.toList_data]; rfl
  have hat : ∀ i (hi : i < s.size) w, ∃ v : Int, (Calls Try.prog 152 #[.string cs, .int .i32 ((Utf8.decode s i).1 : Int)] w fun e w' => e = .returned (.int .i64 v) ∧ Below w.heap.size w w') ∧
      ((0 ≤ v ∧ cs.data.toList.contains (s[i]'hi) = true) ∨ (v = -1 ∧ i + (Utf8.decode s i).2 ≤ s.size ∧ 1 ≤ (Utf8.decode s i).2 ∧ ∀ j b, j < (Utf8.decode s i).2 → s.data.toList[i + j]? = some b → cs.data.toList.contains b = false)) := by
    rw [← hnn]; exact indexRune_at s
  have HAT : Aside _ := hat
  clear hat hnn
  go_enter Try.func147, Try.ntmps147
  go_wp2_with (go_at_call 153; refine (Try.strings_shouldUseASCIISet _ _).mono ?_; rintro e w' ⟨rfl, hw⟩; rw [hw, h8z])
  go_loopg [9, 10] s.size (fun g _ _ wx => ∃ i : Nat, i + g = s.size ∧ wx.heap[w.heap.size]? = some (.stringIter s i) ∧ Below w.heap.size w wx ∧ Lib.NoAny s.data.toList cs.data.toList i)
  case atStart => exact ⟨0, by omega, World.iter_heap w s 0, (Below.refl _ _).alloc (Nat.le_refl _) _, Lib.NoAny.zero _ _⟩
  case round =>
    obtain ⟨i, hig, hk, hb, hno⟩ := hrel
    have HN : Aside (Lib.NoAny s.data.toList cs.data.toList i) := hno
    have HB : Aside (Below w.heap.size w wr) := hb
    clear hno hb
    by_cases hi : i < s.size
    · have hnx := fun ty => run_next_any_at (P := Try.prog) wr w.heap.size s i ty hk hi
      have hk2 := iterAt_heap wr w.heap.size s i (i + (Utf8.decode s i).2) hk
      have HB2 : Aside (Below w.heap.size w (wr.iterAt w.heap.size s (i + (Utf8.decode s i).2))) := below_iterAt HB.out _ (Nat.le_refl _) _ _
      obtain ⟨v, hv, hr⟩ := HAT.out i hi (wr.iterAt w.heap.size s (i + (Utf8.decode s i).2))
      have HV : Aside (Calls Try.prog 152 #[.string cs, .int .i32 ((Utf8.decode s i).1 : Int)] (wr.iterAt w.heap.size s (i + (Utf8.decode s i).2)) fun e w' => e = .returned (.int .i64 v) ∧ Below (wr.iterAt w.heap.size s (i + (Utf8.decode s i).2)).heap.size (wr.iterAt w.heap.size s (i + (Utf8.decode s i).2)) w') := hv
      have HR : Aside _ := hr
      clear hv hr
      rcases HR.out with ⟨h0, hin⟩ | ⟨rfl, hle, h1, hfar⟩
      · go_wp2_with (go_at_call 152; refine HV.out.mono ?_; rintro e w' ⟨rfl, hw⟩)
        go_ret
        exact ⟨by rw [Lib.indexAny_hit HN.out (Lib.data_getElem? s i hi) hin]; rfl, HB2.out.trans (hw.mono HB2.out.size)⟩
      · have HF : Aside _ := hfar
        clear hfar
        go_wp2_with (go_at_call 152; refine HV.out.mono ?_; rintro e w' ⟨rfl, hw⟩)
        go_roundg (s.size - (i + (Utf8.decode s i).2))
        case measure => omega
        case rel =>
          refine ⟨i + (Utf8.decode s i).2, by omega, (hw.block _ ?_).trans hk2, HB2.out.trans (hw.mono HB2.out.size), ?_⟩
          · exact lt_of_block hk2
          · intro j b hj hb
            by_cases hji : j < i
            · exact HN.out j b hji hb
            · have := HF.out (j - i) b (by omega)
              rw [show i + (j - i) = j by omega] at this
              exact this hb
    · obtain rfl : i = s.size := by omega
      have hnx := fun ty => run_next_end_at (P := Try.prog) wr w.heap.size s s.size ty hk (by omega)
      go_wp2
      go_ret
      exact ⟨by rw [Lib.indexAny_none (by rw [← Lib.size_eq]; exact HN.out)]; rfl, HB.out⟩
end Go.Proofs.Ytlbkoafeedlfaaa
