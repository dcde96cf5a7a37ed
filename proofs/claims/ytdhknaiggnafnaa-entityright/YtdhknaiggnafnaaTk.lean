/-
  The law's own calls: whether the program computes at all; whether two lists of code points are the same.
-/
import Derived.Test.YtdhknaiggnafnaaTj
namespace Go.Proofs.Ytdhknaiggnafnaa
open Go.RowKit Go.Lib

theorem find_amp : findM ⟨#[97, 109, 112]⟩ = some [38] := by decide +kernel

theorem RunesAt.open {w : World} {l : List Int} {v : Value} (h : RunesAt w l v) : ∃ g : Option Addr, v = .slice g l.length l.length ∧ (∀ i x, l[i]? = some x → ∃ b, g = some ⟨b, 0, none⟩ ∧ w.cell? ⟨b, i, none⟩ = some (.int .i32 x)) := by
  rcases h with ⟨rfl, rfl⟩ | ⟨b, rfl, hb⟩
  · exact ⟨none, rfl, fun i x h => by simp at h⟩
  · exact ⟨_, rfl, fun i x h => ⟨b, rfl, cell_of hb (by simp [h])⟩⟩

theorem awake_any (w : World) : Calls Try.prog 12 #[] w fun e w' => e = .returned (.bool true) ∧ Below w.heap.size w w' := by
  have HF : Hid (∀ w, Calls Try.prog 9 #[.string ⟨#[97, 109, 112]⟩] w fun e w' => ∃ b, e = .returned (.tuple #[.slice (some ⟨b, 0, none⟩) 1 1, .bool true]) ∧ w'.cell? ⟨b, 0, none⟩ = some (.int .i32 38) ∧ Below w.heap.size w w') := hide (fun w => (find_any _ w).mono (by
    rintro e w' ⟨v, rfl, hv, hw⟩
    rw [find_amp] at hv ⊢
    obtain ⟨g, rfl, hg⟩ := hv.open
    obtain ⟨b, rfl, hb⟩ := hg 0 38 rfl
    exact ⟨b, rfl, hb, hw⟩))
  go_enter Try.func12, Try.ntmps12
  go_wp2_with (go_at_call 9; refine (unhide HF _).mono ?_; rintro e w' ⟨b, rfl, hb, hw⟩)
  go_ret
  exact ⟨rfl, hw⟩

set_option maxHeartbeats 1000000 in
theorem runes_any (w : World) (l m : List Int) (u v : Value) (hu : RunesAt w l u) (hv : RunesAt w m v) (hl : l.length ≤ 1000) (hm : m.length ≤ 1000) :
    Calls Try.prog 11 #[u, v] w fun e w' => e = .returned (.bool (decide (l = m))) ∧ Below w.heap.size w w' := by
  obtain ⟨g, rfl, hg⟩ := hu.open
  obtain ⟨h, rfl, hh⟩ := hv.open
  have HG := hide hg
  have HH := hide hh
  have hl2 : (l.length : Int) ≤ 1000 := by omega
  have hm2 : (m.length : Int) ≤ 1000 := by omega
  clear hu hv hg hh hl hm
  by_cases hz : l.length = m.length
  · have hzz : ((l.length : Int) != (m.length : Int)) = false := by simp [hz]
    have HZ := hide hz
    clear hz
    go_enter Try.func11, Try.ntmps11
    go_wp2
    go_loopg [5] l.length (fun k s5 wx => ∃ i n : Nat, s5 = .int .i64 i ∧ i + k = l.length ∧ (∀ j, j < i → l[j]? = m[j]?) ∧ wx = w.drewN n)
    case atStart => exact ⟨0, 0, rfl, by omega, fun j hj => by omega, rfl⟩
    case round =>
      obtain ⟨i, n, rfl, hik, hp, rfl⟩ := hrel
      have HP := hide hp
      clear hp
      by_cases hi : i < l.length
      · have hiz : (i : Int) < (l.length : Int) := by omega
        have him : i < m.length := by rw [← unhide HZ]; exact hi
        have hiz2 : (i : Int) < (m.length : Int) := by omega
        obtain ⟨x, hx⟩ : ∃ x, l[i]? = some x := ⟨_, List.getElem?_eq_getElem hi⟩
        obtain ⟨y, hy⟩ : ∃ y, m[i]? = some y := ⟨_, List.getElem?_eq_getElem him⟩
        obtain ⟨b, rfl, hb⟩ := (unhide HG) i x hx
        obtain ⟨c, rfl, hc⟩ := (unhide HH) i y hy
        have HX := hide hx
        have HY := hide hy
        clear hx hy
        by_cases he : x = y
        · subst he
          have hee : (x != x) = false := by simp
          go_wp2
          go_quiet (fail)
          go_wp2
          go_roundg (gk - 1)
          case measure => omega
          case rel =>
            refine ⟨i + 1, n + nq, by go_num, by omega, fun j hj => ?_, rfl⟩
            by_cases e : j = i
            · subst e; rw [unhide HX, unhide HY]
            · exact (unhide HP) j (by omega)
        · have hee : (x != y) = true := by simp [he]
          go_wp2
          go_quiet (fail)
          go_wp2
          go_ret
          refine ⟨?_, below_dn (below_dn (Below.refl _ _) _) _⟩
          have e : ¬ l = m := by
            intro h
            have := unhide HX
            rw [h, unhide HY] at this
            exact he (Option.some.inj this).symm
          rw [decide_eq_false e]; rfl
      · obtain rfl : i = l.length := by omega
        have hiz : ¬ (l.length : Int) < (l.length : Int) := by omega
        go_wp2
        go_ret
        refine ⟨?_, below_dn (Below.refl _ _) _⟩
        have e : l = m := by
          apply List.ext_getElem?
          intro j
          by_cases hj : j < l.length
          · exact (unhide HP) j hj
          · rw [List.getElem?_eq_none (by omega), List.getElem?_eq_none (by rw [← unhide HZ]; omega)]
        rw [decide_eq_true e]; rfl
  · have hzz : ((l.length : Int) != (m.length : Int)) = true := by rw [bne_iff_ne]; omega
    have HZ := hide hz
    clear hz
    go_enter Try.func11, Try.ntmps11
    go_wp2
    go_ret
    refine ⟨?_, Below.refl _ _⟩
    have e : ¬ l = m := fun h => unhide HZ (by rw [h])
    rw [decide_eq_false e]; rfl
end Go.Proofs.Ytdhknaiggnafnaa
