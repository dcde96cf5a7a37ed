/-
  The document's own arena: what Link refuses.
-/
import Derived.Test.YtlbkoafeedlfaaaCRfA
namespace Go.Proofs.Ytlbkoafeedlfaaa
open Go.RowKit

section
variable {w w' : World} {base bR g cap : Nat} {rs : List OneR}

theorem refLink_none (h : Rf w base bR g cap rs) (p c b : Int) (hno : (hasO (osOf rs) p && hasO (osOf rs) c && (b == -1 || hasO (osOf rs) b)) = false) :
    Calls Try.prog 38 #[.pointer (some ⟨bR, 0, none⟩), .int .i64 p, .int .i64 c, .int .i64 b] w fun e w' => e = .returned (.int .i64 6) ∧ w = w' := by
  have HI := hide (fun k => refIs_any h k)
  clear h
  cases h1 : hasO (osOf rs) p with
  | false =>
    clear hno
    go_enter Try.func38, Try.ntmps38
    go_wp2_with (go_at_call 79; refine ((unhide HI) _).mono ?_; rintro e w' ⟨rfl, rfl⟩)
    go_ret
    exact ⟨rfl, rfl⟩
  | true =>
    cases h2 : hasO (osOf rs) c with
    | false =>
      clear hno
      go_enter Try.func38, Try.ntmps38
      go_wp2_with (go_at_call 79; refine ((unhide HI) _).mono ?_; rintro e w' ⟨rfl, rfl⟩)
      go_ret
      exact ⟨rfl, rfl⟩
    | true =>
      rw [h1, h2] at hno
      simp only [Bool.and_self, Bool.true_and, Bool.or_eq_false_iff] at hno
      have h3 : (b != -1) = true := by rw [bne_iff_ne]; simpa using hno.1
      have h4 := hno.2
      clear hno
      go_enter Try.func38, Try.ntmps38
      go_wp2_with (go_at_call 79; refine ((unhide HI) _).mono ?_; rintro e w' ⟨rfl, rfl⟩)
      go_ret
      exact ⟨rfl, rfl⟩

/-- The first question is answered: all three are nodes. -/
structure Three (rs : List OneR) (p c : Nat) (b : Int) (rp rc : OneR) : Prop where
  hp : rs[p]? = some rp
  hc : rs[c]? = some rc
  hb : b = -1 ∨ hasO (osOf rs) b = true

set_option maxHeartbeats 1000000 in
theorem refLink_kind (h : Rf w base bR g cap rs) {p c : Nat} {b : Int} {rp rc : OneR} (h3 : Three rs p c b rp rc) (hk : parentM rp.o.kind = false ∨ rc.o.kind = 0 ∨ rc.o.kind = 5) :
    Calls Try.prog 38 #[.pointer (some ⟨bR, 0, none⟩), .int .i64 p, .int .i64 c, .int .i64 b] w fun e w' => e = .returned (.int .i64 10) ∧ Below w.heap.size w w' := by
  have hlc : c < rs.length := (List.getElem?_eq_some_iff.1 h3.hc).1
  have HI := hide (fun k => refIs_any h k)
  have HP := hide (refParent_any h p rp h3.hp)
  have i1 : hasO (osOf rs) p = true := hasO_of (osOf_get h3.hp)
  have i2 : hasO (osOf rs) c = true := hasO_of (osOf_get h3.hc)
  have hA := h.cR
  have hn := h.most
  have c0 := (h.cells10 h3.hc).1
  have hbb : (b != -1) = false ∨ ((b != -1) = true ∧ hasO (osOf rs) b = true) := by
    rcases h3.hb with e | e
    · exact .inl (by simp [e])
    · by_cases e1 : b = -1
      · exact .inl (by simp [e1])
      · exact .inr ⟨by rw [bne_iff_ne]; exact e1, e⟩
  clear h h3
  cases hpk : parentM rp.o.kind with
  | false =>
    rw [hpk] at HP
    clear hk
    rcases hbb with hb1 | ⟨hb1, hb2⟩
    all_goals
      go_enter Try.func38, Try.ntmps38
      go_wp2_with (first
        | (go_at_call 79; refine ((unhide HI) _).mono ?_; rintro e w' ⟨rfl, rfl⟩)
        | (go_at_call 93; refine (unhide HP).mono ?_; rintro e w' ⟨rfl, rfl⟩))
      go_ret
      exact ⟨rfl, Below.refl _ _⟩
  | true =>
    rw [hpk] at HP hk
    simp only [Bool.true_eq_false, false_or] at hk
    by_cases hk0 : rc.o.kind = 0
    · rw [hk0] at c0
      clear hk hk0
      rcases hbb with hb1 | ⟨hb1, hb2⟩
      all_goals
        go_enter Try.func38, Try.ntmps38
        go_wp2_with (first
          | (go_at_call 79; refine ((unhide HI) _).mono ?_; rintro e w' ⟨rfl, rfl⟩)
          | (go_at_call 93; refine (unhide HP).mono ?_; rintro e w' ⟨rfl, rfl⟩))
        go_ret
        exact ⟨rfl, Below.refl _ _⟩
    · have hk5 : rc.o.kind = 5 := hk.resolve_left hk0
      rw [hk5] at c0
      clear hk hk0 hk5
      rcases hbb with hb1 | ⟨hb1, hb2⟩
      all_goals
        go_enter Try.func38, Try.ntmps38
        go_wp2_with (first
          | (go_at_call 79; refine ((unhide HI) _).mono ?_; rintro e w' ⟨rfl, rfl⟩)
          | (go_at_call 93; refine (unhide HP).mono ?_; rintro e w' ⟨rfl, rfl⟩))
        go_ret
        exact ⟨rfl, Below.refl _ _⟩

set_option maxHeartbeats 1000000 in
theorem refLink_linked (h : Rf w base bR g cap rs) {p c : Nat} {b : Int} {rp rc : OneR} (h3 : Three rs p c b rp rc) (hends : ∀ i, i < (osOf rs).length → ∃ path, PathOf (upO (osOf rs)) i path) (hk : parentM rp.o.kind = true) (hk0 : rc.o.kind ≠ 0) (hk5 : rc.o.kind ≠ 5)
    (hl : rc.o.up ≠ -1 ∨ aboveO (osOf rs) p c = true) :
    Calls Try.prog 38 #[.pointer (some ⟨bR, 0, none⟩), .int .i64 p, .int .i64 c, .int .i64 b] w fun e w' => e = .returned (.int .i64 11) ∧ Below w.heap.size w w' := by
  have hlc : c < rs.length := (List.getElem?_eq_some_iff.1 h3.hc).1
  have HI := hide (fun k => refIs_any h k)
  have HP := hide (refParent_any h p rp h3.hp)
  rw [hk] at HP
  have HAB := hide (refAbove_any h hends p c)
  have i1 : hasO (osOf rs) p = true := hasO_of (osOf_get h3.hp)
  have i2 : hasO (osOf rs) c = true := hasO_of (osOf_get h3.hc)
  have hA := h.cR
  have hn := h.most
  have c0 := (h.cells10 h3.hc).1
  have c8 := (h.cells10 h3.hc).2.2.2.2.2.2.2.2.1
  have f0 : (rc.o.kind == 0) = false := beq_eq_false_iff_ne.2 hk0
  have f5 : (rc.o.kind == 5) = false := beq_eq_false_iff_ne.2 hk5
  have hbb : (b != -1) = false ∨ ((b != -1) = true ∧ hasO (osOf rs) b = true) := by
    rcases h3.hb with e | e
    · exact .inl (by simp [e])
    · by_cases e1 : b = -1
      · exact .inl (by simp [e1])
      · exact .inr ⟨by rw [bne_iff_ne]; exact e1, e⟩
  clear h h3 hends hk hk0 hk5
  by_cases hu : rc.o.up = -1
  · have hab : aboveO (osOf rs) p c = true := hl.resolve_left (by simpa using hu)
    rw [hab] at HAB
    rw [hu] at c8
    clear hl hu hab
    rcases hbb with hb1 | ⟨hb1, hb2⟩
    all_goals
      go_enter Try.func38, Try.ntmps38
      go_wp2_with (first
        | (go_at_call 79; refine ((unhide HI) _).mono ?_; rintro e w' ⟨rfl, rfl⟩)
        | (go_at_call 93; refine (unhide HP).mono ?_; rintro e w' ⟨rfl, rfl⟩)
        | (go_at_call 94; refine (unhide HAB).mono ?_; rintro e w' ⟨rfl, rfl⟩))
      go_ret
      exact ⟨rfl, Below.refl _ _⟩
  · have hu1 : (rc.o.up != -1) = true := by rw [bne_iff_ne]; exact hu
    clear hl
    rcases hbb with hb1 | ⟨hb1, hb2⟩
    all_goals
      go_enter Try.func38, Try.ntmps38
      go_wp2_with (first
        | (go_at_call 79; refine ((unhide HI) _).mono ?_; rintro e w' ⟨rfl, rfl⟩)
        | (go_at_call 93; refine (unhide HP).mono ?_; rintro e w' ⟨rfl, rfl⟩)
        | (go_at_call 94; refine (unhide HAB).mono ?_; rintro e w' ⟨rfl, rfl⟩))
      go_ret
      exact ⟨rfl, Below.refl _ _⟩

set_option maxHeartbeats 1000000 in
theorem refLink_arg (h : Rf w base bR g cap rs) {p c : Nat} {b : Int} {rp rc : OneR} (h3 : Three rs p c b rp rc) (hends : ∀ i, i < (osOf rs).length → ∃ path, PathOf (upO (osOf rs)) i path) (hk : parentM rp.o.kind = true) (hk0 : rc.o.kind ≠ 0) (hk5 : rc.o.kind ≠ 5)
    (hu : rc.o.up = -1) (hab : aboveO (osOf rs) p c = false) (hb1 : b ≠ -1) (hbu : upIO (osOf rs) b ≠ p) :
    Calls Try.prog 38 #[.pointer (some ⟨bR, 0, none⟩), .int .i64 p, .int .i64 c, .int .i64 b] w fun e w' => e = .returned (.int .i64 1) ∧ Below w.heap.size w w' := by
  have hlc : c < rs.length := (List.getElem?_eq_some_iff.1 h3.hc).1
  have HI := hide (fun k => refIs_any h k)
  have HP := hide (refParent_any h p rp h3.hp)
  rw [hk] at HP
  have HAB := hide (refAbove_any h hends p c)
  rw [hab] at HAB
  have i1 : hasO (osOf rs) p = true := hasO_of (osOf_get h3.hp)
  have i2 : hasO (osOf rs) c = true := hasO_of (osOf_get h3.hc)
  have hA := h.cR
  have hn := h.most
  have c0 := (h.cells10 h3.hc).1
  have c8 := (h.cells10 h3.hc).2.2.2.2.2.2.2.2.1
  rw [hu] at c8
  have f0 : (rc.o.kind == 0) = false := beq_eq_false_iff_ne.2 hk0
  have f5 : (rc.o.kind == 5) = false := beq_eq_false_iff_ne.2 hk5
  have hb2 : hasO (osOf rs) b = true := h3.hb.resolve_left hb1
  obtain ⟨bi, ob, rfl, hob⟩ := hasO_yes hb2
  have hbl : bi < rs.length := by rw [← osOf_len]; exact (List.getElem?_eq_some_iff.1 hob).1
  obtain ⟨rb, hrb⟩ : ∃ r, rs[bi]? = some r := ⟨_, List.getElem?_eq_getElem hbl⟩
  have hro := osOf_get hrb
  rw [hob] at hro
  cases hro
  have c8b := (h.cells10 hrb).2.2.2.2.2.2.2.2.1
  rw [upIO_of hob] at hbu
  have hbn : ((bi : Int) != -1) = true := by rw [bne_iff_ne]; exact hb1
  have hpp : (rb.o.up != (p : Int)) = true := by rw [bne_iff_ne]; exact hbu
  clear h h3 hends hk hk0 hk5 hu hab hbu hob hrb hb1
  go_enter Try.func38, Try.ntmps38
  go_wp2_with (first
    | (go_at_call 79; refine ((unhide HI) _).mono ?_; rintro e w' ⟨rfl, rfl⟩)
    | (go_at_call 93; refine (unhide HP).mono ?_; rintro e w' ⟨rfl, rfl⟩)
    | (go_at_call 94; refine (unhide HAB).mono ?_; rintro e w' ⟨rfl, rfl⟩))
  go_ret
  exact ⟨rfl, Below.refl _ _⟩
end
end Go.Proofs.Ytlbkoafeedlfaaa
