/-
  Package sniff's scanner: what it sees, its asks, and pass.
-/
import Derived.Test.YtmikcdmlhocgbaaDoorSa
namespace Go.Proofs.YtmikcdmlhocgbaaDoor
open Go.RowKit Go.Lib

section
variable {w w' : World} {b : Nat} {t : ByteArray} {k : Nat}

/-- A text's length is far from the ends of int. -/
def Small (t : ByteArray) : Prop := (t.size : Int) < 281474976710656

theorem drewN_more {w wr : World} (h : ∃ n, wr = w.drewN n) (m : Nat) : ∃ n, wr.drewN m = w.drewN n := by
  obtain ⟨n, rfl⟩ := h
  exact ⟨n + m, by rw [World.drewN_drewN]⟩
theorem seesM_short {t : ByteArray} {k : Nat} {x : ByteArray} (h : t.size < k + x.size) (hx : 0 < x.size) : seesM t.data.toList k x.data.toList = false := by
  unfold seesM
  rw [decide_eq_false_iff_not]
  intro e
  have := congrArg List.length e
  rw [List.length_map, List.length_take, List.length_drop, len_data, len_data] at this
  omega
theorem sees_at {t x : ByteArray} {k i : Nat} (hi : i < x.size) (hk : k + i < t.size) : (((t.data.toList.drop k).take x.data.toList.length).map low)[i]? = some (low (t[k + i]'hk)) := by
  rw [List.getElem?_map, List.getElem?_take_of_lt (by rw [len_data]; exact hi), List.getElem?_drop, Lib.data_getElem? t (k + i) hk]
  rfl

set_option maxHeartbeats 2000000 in
theorem sees_any (h : Sc w b t k) (hk : k ≤ t.size) (hs : Small t) (x : ByteArray) (hx0 : 0 < x.size) (hx : x.size ≤ 100) :
    Calls Tryd.prog 32 #[.pointer (some ⟨b, 0, none⟩), .string x] w fun e w' => e = .returned (.bool (seesM t.data.toList k x.data.toList)) ∧ ∃ n, w' = w.drewN n := by
  obtain ⟨c0, c1, _⟩ := h.cells
  unfold Small at hs
  have hw0 : IntKind.i64.wrap ((t.size : Int) - (k : Int)) = (t.size : Int) - (k : Int) := by
    simp [IntKind.wrap, IntKind.bits, IntKind.signed]
    omega
  have hw1 : ∀ j m : Nat, m = k + j → j < x.size → IntKind.i64.wrap (m : Int) = (m : Int) := fun j m hm hj => by
    subst hm
    simp [IntKind.wrap, IntKind.bits, IntKind.signed]
    omega
  have HW1 := hide hw1
  clear h hs hw1
  by_cases hl : t.size < k + x.size
  · have hz : (t.size : Int) - (k : Int) < (x.size : Int) := by omega
    rw [seesM_short hl hx0]
    go_enter Tryd.func32, Tryd.ntmps32
    go_wp2
    go_quiet (fail)
    go_wp2
    go_ret
    exact ⟨rfl, _, rfl⟩
  · have hz : ¬ (t.size : Int) - (k : Int) < (x.size : Int) := by omega
    go_enter Tryd.func32, Tryd.ntmps32
    go_wp2
    go_quiet (fail)
    go_wp2
    go_loopg [5, 21] x.size (fun g _ s21 wx => ∃ j : Nat, s21 = .int .i64 j ∧ j + g = x.size ∧ (∀ i, i < j → (((t.data.toList.drop k).take x.data.toList.length).map low)[i]? = x.data.toList[i]?) ∧ ∃ n, wx = w.drewN n)
    case atStart => exact ⟨0, rfl, by omega, fun i hi => by omega, _, rfl⟩
    case round =>
      obtain ⟨j, rfl, hjg, hpre, hwx⟩ := hrel
      have HP := hide hpre
      have HX := hide hwx
      have d0 : wr.cell? ⟨b, 0, none⟩ = some (.string t) := by obtain ⟨n, e⟩ := hwx; rw [e]; exact c0
      have d1 : wr.cell? ⟨b, 1, none⟩ = some (.int .i64 (k : Int)) := by obtain ⟨n, e⟩ := hwx; rw [e]; exact c1
      clear hpre hwx
      by_cases hj : j < x.size
      · have hjz : (j : Int) < (x.size : Int) := by omega
        obtain ⟨m, hm⟩ : ∃ m : Nat, m = k + j := ⟨_, rfl⟩
        have hww := (unhide HW1) j m hm hj
        have hcast : (k : Int) + (j : Int) = (m : Int) := by omega
        have hjt : m < t.size := by omega
        have hjtz : (m : Int) < (t.size : Int) := by omega
        obtain ⟨c, hc⟩ : ∃ c : UInt8, t[m]'hjt = c := ⟨_, rfl⟩
        obtain ⟨y, hy⟩ : ∃ y : UInt8, x[j]'hj = y := ⟨_, rfl⟩
        have HA : Hid ((((t.data.toList.drop k).take x.data.toList.length).map low)[j]? = some (low c)) := hide (by subst hm; rw [← hc]; exact sees_at hj hjt)
        have HY : Hid (x.data.toList[j]? = some y) := hide (by rw [← hy]; exact Lib.data_getElem? x j hj)
        clear hm
        by_cases he : low c = y
        · have hee : (((low c).toNat : Int) != (y.toNat : Int)) = false := by rw [he]; simp
          have HE := hide he
          clear he
          go_wp2
          go_quiet ((go_at_call 49; exact Calls.quiet_of_same (small_any c _)))
          go_wp2
          go_roundg (gk - 1)
          case measure => omega
          case rel =>
            refine ⟨j + 1, by go_num, by omega, fun i hi => ?_, drewN_more (unhide HX) _⟩
            by_cases e : i = j
            · subst e; rw [unhide HA, unhide HY, unhide HE]
            · exact (unhide HP) i (by omega)
        · have hee : (((low c).toNat : Int) != (y.toNat : Int)) = true := by
            rw [bne_iff_ne]; intro e; apply he; apply UInt8.toNat_inj.1; omega
          have HE := hide he
          clear he
          go_wp2
          go_quiet ((go_at_call 49; exact Calls.quiet_of_same (small_any c _)))
          go_wp2
          go_ret
          refine ⟨?_, drewN_more (unhide HX) _⟩
          have : seesM t.data.toList k x.data.toList = false := by
            unfold seesM
            rw [decide_eq_false_iff_not]
            intro e
            have h1 := unhide HA
            rw [e, unhide HY] at h1
            cases h1; exact unhide HE rfl
          rw [this]; rfl
      · have hjz : ¬ (j : Int) < (x.size : Int) := by omega
        obtain rfl : j = x.size := by omega
        go_wp2
        go_ret
        refine ⟨?_, unhide HX⟩
        have : seesM t.data.toList k x.data.toList = true := by
          unfold seesM
          rw [decide_eq_true_eq]
          apply List.ext_getElem?
          intro i
          by_cases hi : i < x.size
          · exact (unhide HP) i hi
          · rw [List.getElem?_eq_none (by rw [List.length_map, List.length_take, len_data]; omega), List.getElem?_eq_none (by rw [len_data]; omega)]
        rw [this]; rfl

theorem letter_any (h : Sc w b t k) (on : Nat) (hk : k ≤ t.size) (hs : Small t) (ho : on ≤ 100) :
    Calls Tryd.prog 42 #[.pointer (some ⟨b, 0, none⟩), .int .i64 (on : Int)] w fun e w' => e = .returned (.bool (letterM t.data.toList (k + on))) ∧ w' = w := by
  obtain ⟨c0, c1, _⟩ := h.cells
  unfold Small at hs
  have hw := wrap_add k on (by omega) (by omega)
  have hcast : (k : Int) + (on : Int) = ((k + on : Nat) : Int) := by omega
  rw [hcast] at hw
  clear h hk hs ho
  generalize hm : k + on = m at hw hcast ⊢
  clear hm
  unfold letterM
  by_cases hi : m < t.size
  · have hz : (m : Int) < (t.size : Int) := by omega
    rw [Lib.data_getElem? t m hi]
    obtain ⟨c, hc⟩ : ∃ c : UInt8, t[m]'hi = c := ⟨_, rfl⟩
    rw [hc]
    have HS := hide (fun W => small_any c W)
    obtain ⟨v, hv⟩ : ∃ v : Nat, (low c).toNat = v := ⟨_, rfl⟩
    simp only [hv] at HS ⊢
    clear hv
    by_cases h1 : (97 : Int) ≤ (v : Int)
    · by_cases h2 : (v : Int) ≤ 122
      · have h3 : decide ((v : Int) ≤ 122) = true := by rw [decide_eq_true_eq]; exact h2
        rw [show decide (97 ≤ v ∧ v ≤ 122) = true by rw [decide_eq_true_eq]; omega]
        go_enter Tryd.func42, Tryd.ntmps42
        go_wp2_with (first | (go_at_call 49; refine ((unhide HS) _).mono ?_; rintro e w' ⟨rfl, rfl⟩))
        go_ret
        exact ⟨by rw [← h3]; rfl, rfl⟩
      · have h3 : decide ((v : Int) ≤ 122) = false := by rw [decide_eq_false_iff_not]; exact h2
        rw [show decide (97 ≤ v ∧ v ≤ 122) = false by rw [decide_eq_false_iff_not]; omega]
        go_enter Tryd.func42, Tryd.ntmps42
        go_wp2_with (first | (go_at_call 49; refine ((unhide HS) _).mono ?_; rintro e w' ⟨rfl, rfl⟩))
        go_ret
        exact ⟨by rw [← h3]; rfl, rfl⟩
    · rw [show decide (97 ≤ v ∧ v ≤ 122) = false by rw [decide_eq_false_iff_not]; omega]
      go_enter Tryd.func42, Tryd.ntmps42
      go_wp2_with (first | (go_at_call 49; refine ((unhide HS) _).mono ?_; rintro e w' ⟨rfl, rfl⟩))
      go_ret
      exact ⟨rfl, rfl⟩
  · have hz : ¬ (m : Int) < (t.size : Int) := by omega
    rw [List.getElem?_eq_none (by rw [len_data]; omega)]
    go_enter Tryd.func42, Tryd.ntmps42
    go_wp2
    go_ret
    exact ⟨rfl, rfl⟩
end
end Go.Proofs.YtmikcdmlhocgbaaDoor
