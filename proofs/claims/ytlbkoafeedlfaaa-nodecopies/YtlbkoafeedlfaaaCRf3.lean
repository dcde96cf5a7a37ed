/-
  The document's own arena: a child's place, an attribute's place, long texts.
-/
import Derived.Test.YtlbkoafeedlfaaaCRf2
namespace Go.Proofs.Ytlbkoafeedlfaaa
open Go.RowKit

section
variable {w : World} {base bR g cap : Nat} {rs : List OneR}

theorem refAbove_any (h : Rf w base bR g cap rs) (hends : ∀ i, i < (osOf rs).length → ∃ path, PathOf (upO (osOf rs)) i path) (i other : Int) :
    Calls Try.prog 94 #[.pointer (some ⟨bR, 0, none⟩), .int .i64 i, .int .i64 other] w fun e w' => e = .returned (.bool (aboveO (osOf rs) i other)) ∧ w = w' := by
  cases hh : (hasO (osOf rs) i && hasO (osOf rs) other) with
  | true =>
    rw [Bool.and_eq_true] at hh
    obtain ⟨ii, oi, rfl, hoi⟩ := hasO_yes hh.1
    obtain ⟨path, hpath⟩ := hends ii (List.getElem?_eq_some_iff.1 hoi).1
    rw [aboveO_of hoi hh.2 hpath]
    exact refAbove_path h ii other hh.2 hh.1 path hpath
  | false =>
    have e : aboveO (osOf rs) i other = false := by rw [aboveO_eq]; rw [hh]; rfl
    rw [e]
    have HI := hide (fun k => refIs_any h k)
    clear h hends e
    cases h1 : hasO (osOf rs) i with
    | false =>
      go_enter Try.func94, Try.ntmps94
      go_wp2_with (go_at_call 79; refine ((unhide HI) _).mono ?_; rintro e w' ⟨rfl, rfl⟩)
      go_ret
      exact ⟨rfl, rfl⟩
    | true =>
      have h2 : hasO (osOf rs) other = false := by rw [h1] at hh; simpa using hh
      clear hh
      go_enter Try.func94, Try.ntmps94
      go_wp2_with (go_at_call 79; refine ((unhide HI) _).mono ?_; rintro e w' ⟨rfl, rfl⟩)
      go_ret
      exact ⟨rfl, rfl⟩

theorem refLong_any (w : World) (b cp : Nat) (ss : List ByteArray) (hc : ∀ j s, ss[j]? = some s → w.cell? ⟨b, j, none⟩ = some (.string s)) (hl : ss.length ≤ 1000) :
    Calls Try.prog 95 #[.slice (some ⟨b, 0, none⟩) ss.length cp] w fun e w' => e = .returned (.bool (ss.any longS)) ∧ w = w' := by
  have HC := hide hc
  clear hc
  go_enter Try.func95, Try.ntmps95
  go_wp2
  go_loopg [3] ss.length (fun k s2 wx => ∃ i : Nat, s2 = .int .i64 i ∧ i + k = ss.length ∧ (∀ j s, j < i → ss[j]? = some s → longS s = false) ∧ wx = w)
  case atStart => exact ⟨0, rfl, by omega, fun j s hj => by omega, rfl⟩
  case round =>
    obtain ⟨i, rfl, hik, hall, rfl⟩ := hrel
    have HA := hide hall
    clear hall
    by_cases hi : i < ss.length
    · have hs : ss[i]? = some ss[i] := List.getElem?_eq_getElem hi
      generalize ss[i] = s at hs
      have hcs := (unhide HC) i s hs
      have hiz : (i : Int) < (ss.length : Int) := by omega
      by_cases hlong : 1048576 < s.size
      · have hlz : (1048576 : Int) < (s.size : Int) := by omega
        go_wp2
        go_ret
        refine ⟨?_, rfl⟩
        have : ss.any longS = true := List.any_eq_true.2 ⟨s, List.mem_of_getElem? hs, by simp [longS, hlong]⟩
        rw [this]; rfl
      · have hlz : ¬ (1048576 : Int) < (s.size : Int) := by omega
        go_wp2
        go_roundg (gk - 1)
        case measure => omega
        case rel => exact ⟨i + 1, by go_num, by omega, none_long ss i s hs (unhide HA) (by simp [longS]; omega), rfl⟩
    · have hiz : ¬ (i : Int) < (ss.length : Int) := by omega
      go_wp2
      go_ret
      refine ⟨?_, rfl⟩
      have : ss.any longS = false := any_long_no (fun j s hj hs => (unhide HA) j s (by omega) hs)
      rw [this]; rfl

/-- Where a child stands. -/
theorem refPlace_any (h : Rf w base bR g cap rs) (i p : Nat) (r rp : OneR) (hi : rs[i]? = some r) (hu : r.o.up = (p : Int)) (hp : rs[p]? = some rp) (A B : List Nat) (hk : rp.o.kids = A ++ i :: B) (hA : i ∉ A) :
    Calls Try.prog 101 #[.pointer (some ⟨bR, 0, none⟩), .int .i64 i] w fun e w' => e = .returned (.int .i64 A.length) ∧ Below w.heap.size w w' := by
  have hlt : i < rs.length := (List.getElem?_eq_some_iff.1 hi).1
  have hpl : p < rs.length := (List.getElem?_eq_some_iff.1 hp).1
  have hAr := h.cR
  have hn := h.most
  have c8 := (h.cells10 hi).2.2.2.2.2.2.2.2.1
  rw [hu] at c8
  have c9 := (h.cells10 hp).2.2.2.2.2.2.2.2.2
  obtain ⟨a, cp, hkv, hin, hkl⟩ := h.kids p rp hp
  rw [hkv] at c9
  have hAl : A.length < rp.o.kids.length := by rw [hk]; simp
  have hget : ∀ j, j < A.length → ∃ x : Nat, rp.o.kids[j]? = some x ∧ x ≠ i := by
    intro j hj
    refine ⟨A[j], by rw [hk, List.getElem?_append_left hj, List.getElem?_eq_getElem hj], fun e => hA (e ▸ List.getElem_mem hj)⟩
  have hat : rp.o.kids[A.length]? = some i := by rw [hk]; simp
  have HIN := hide hin
  have HG := hide hget
  have HAT := hide hat
  generalize rp.o.kids = ks at *
  clear h hi hp hu hkv hk hA hin hget hat
  go_enter Try.func101, Try.ntmps101
  go_wp2
  go_region
  go_wp2
  go_loopg [6] A.length (fun k s5 wx => ∃ j : Nat, s5 = .int .i64 j ∧ j + k = A.length ∧ wx = w.drew)
  case atStart => exact ⟨0, rfl, by omega, rfl⟩
  case round =>
    obtain ⟨j, rfl, hjk, rfl⟩ := hrel
    have hjl : (j : Int) < (ks.length : Int) := by omega
    cases gk with
    | zero =>
      obtain rfl : j = A.length := by omega
      obtain ⟨b, off, rfl, hc⟩ := (unhide HIN).cells A.length i (unhide HAT)
      have he : ((i : Int) == (i : Int)) = true := by simp
      go_wp2
      go_ret
      exact ⟨rfl, (Below.refl _ _).drew⟩
    | succ gk =>
      obtain ⟨x, hx, hne⟩ := (unhide HG) j (by omega)
      obtain ⟨b, off, rfl, hc⟩ := (unhide HIN).cells j x hx
      have he : ((x : Int) == (i : Int)) = false := beq_eq_false_iff_ne.2 (by omega)
      go_wp2
      go_roundg gk
      case measure => omega
      case rel => exact ⟨j + 1, by go_num, by omega, rfl⟩
end
end Go.Proofs.Ytlbkoafeedlfaaa
