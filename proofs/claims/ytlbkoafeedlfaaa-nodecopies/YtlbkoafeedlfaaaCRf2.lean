/-
  The document's own arena: what is above what, a child's place, an attribute's place, long texts.
-/
import Derived.Test.YtlbkoafeedlfaaaCRf
import Derived.Deep.LoopGhost
namespace Go.Proofs.Ytlbkoafeedlfaaa
open Go.RowKit

section
variable {w : World} {base bR g cap : Nat} {rs : List OneR}

theorem upO_of {os : List OneM} {i : Nat} {o : OneM} (h : os[i]? = some o) : upO os i = some (if o.up = -1 then o.host else o.up) := by simp [upO, h]

set_option maxHeartbeats 2000000 in
theorem refAbove_path (h : Rf w base bR g cap rs) (i : Nat) (other : Int) (ho : hasO (osOf rs) other = true) (hi0 : hasO (osOf rs) i = true) (path : List Nat) (hpath : PathOf (upO (osOf rs)) i path) :
    Calls Try.prog 94 #[.pointer (some ⟨bR, 0, none⟩), .int .i64 i, .int .i64 other] w fun e w' => e = .returned (.bool (inPath path other)) ∧ w = w' := by
  have HI := hide (fun k => refIs_any h k)
  have hA := h.cR
  have hn := h.most
  have hcell := fun (x : Nat) r hx => h.cells10 (i := x) (r := r) hx
  have HC := hide hcell
  have HP := hide hpath
  clear h hcell hpath
  go_enter Try.func94, Try.ntmps94
  go_wp2_with (go_at_call 79; refine ((unhide HI) _).mono ?_; rintro e w' ⟨rfl, rfl⟩)
  go_loopg [1] path.length (fun k s1 wx => ∃ (q : Int) (pre rest : List Nat), s1 = .int .i64 q ∧ path = pre ++ rest ∧ k = rest.length ∧ PathOf (upO (osOf rs)) q rest ∧ inPath pre other = false ∧ wx = w)
  case atStart => exact ⟨i, [], path, rfl, rfl, rfl, unhide HP, rfl, rfl⟩
  case round =>
    obtain ⟨q, pre, rest, rfl, rfl, rfl, hq, hpre, rfl⟩ := hrel
    have HPre := hide hpre
    clear hpre
    cases rest with
    | nil =>
      obtain rfl : q = -1 := hq
      go_wp2
      go_ret
      exact ⟨by rw [List.append_nil, unhide HPre]; rfl, rfl⟩
    | cons j r =>
      obtain ⟨rfl, m, hm, hr⟩ := hq
      have HR := hide hr
      have hq1 : ((j : Int) != -1) = true := by rw [bne_iff_ne]; omega
      by_cases hj : (j : Int) = other
      · have hj1 : ((j : Int) == other) = true := by simp [hj]
        go_wp2
        go_ret
        refine ⟨?_, rfl⟩
        have : inPath (pre ++ j :: r) other = true := by simp [inPath, hj]
        rw [this]; rfl
      · have hj1 : ((j : Int) == other) = false := beq_eq_false_iff_ne.2 hj
        obtain ⟨o, hoj⟩ : ∃ o, (osOf rs)[j]? = some o := by
          cases e : (osOf rs)[j]? with
          | none => simp [upO, e] at hm
          | some o => exact ⟨o, rfl⟩
        have hlt : j < rs.length := by rw [← osOf_len]; exact (List.getElem?_eq_some_iff.1 hoj).1
        obtain ⟨rj, hrj⟩ : ∃ r, rs[j]? = some r := ⟨_, List.getElem?_eq_getElem hlt⟩
        have := osOf_get hrj
        rw [hoj] at this
        cases this
        rw [upO_of hoj] at hm
        have c7 := ((unhide HC) j rj hrj).2.2.2.2.2.2.2.1
        have c8 := ((unhide HC) j rj hrj).2.2.2.2.2.2.2.2.1
        have HPre2 := hide (show inPath (pre ++ [j]) other = false by
          have := unhide HPre
          unfold inPath at this ⊢
          rw [List.any_append, this]; simp [hj])
        clear hoj hrj hr
        by_cases hu : rj.o.up = -1
        · rw [if_pos hu] at hm
          simp only [Option.some.injEq] at hm
          rw [hu] at c8
          subst hm
          clear hu
          go_wp2
          go_roundg r.length
          case measure => simp
          case rel => exact ⟨_, pre ++ [j], r, rfl, by simp, rfl, unhide HR, unhide HPre2, rfl⟩
        · rw [if_neg hu] at hm
          simp only [Option.some.injEq] at hm
          have hu1 : (rj.o.up == -1) = false := beq_eq_false_iff_ne.2 hu
          subst hm
          go_wp2
          go_roundg r.length
          case measure => simp
          case rel => exact ⟨_, pre ++ [j], r, rfl, by simp, rfl, unhide HR, unhide HPre2, rfl⟩
end
end Go.Proofs.Ytlbkoafeedlfaaa
