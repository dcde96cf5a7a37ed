/-
  The document's own arena: an attribute's place, the children told.
-/
import Derived.Test.YtlbkoafeedlfaaaCRf3
import Derived.Deep.QuietTactic
import Derived.BigQuiet
namespace Go.Proofs.Ytlbkoafeedlfaaa
open Go.RowKit

section
variable {w : World} {base bR g cap : Nat} {rs : List OneR}

theorem refFind_any (h : Rf w base bR g cap rs) (i : Nat) (r : OneR) (hi : rs[i]? = some r) (space : Int) (name : ByteArray) :
    Calls Try.prog 99 #[.pointer (some ⟨bR, 0, none⟩), .int .i64 i, .int .i64 space, .string name] w fun e w' => e = .returned (.int .i64 (idxM (sameKey space name) r.o.attrs)) ∧ Below w.heap.size w w' := by
  have hlt : i < rs.length := (List.getElem?_eq_some_iff.1 hi).1
  have hAr := h.cR
  have hn := h.most
  have c3 := (h.cells10 hi).2.2.2.1
  obtain ⟨a, cp, hav, hin, hkl⟩ := h.attrs i r hi
  rw [hav] at c3
  have HIN := hide hin
  generalize r.o.attrs = l at *
  clear h hi hav hin
  go_enter Try.func99, Try.ntmps99
  go_wp2
  go_loopg [10] l.length (fun k s wx => ∃ j : Nat, s = .int .i64 j ∧ j + k = l.length ∧ (∀ q x, q < j → l[q]? = some x → sameKey space name x = false) ∧ wx = w)
  case atStart => exact ⟨0, rfl, by omega, fun q x hq => by omega, rfl⟩
  case round =>
    obtain ⟨j, rfl, hjk, hall, rfl⟩ := hrel
    have HA := hide hall
    clear hall
    by_cases hj : j < l.length
    · have hx : l[j]? = some l[j] := List.getElem?_eq_getElem hj
      generalize l[j] = x at hx
      obtain ⟨b, off, rfl, d0, d1, d2, d3⟩ := (unhide HIN).cells j x hx
      have hjz : (j : Int) < (l.length : Int) := by omega
      have HX := hide hx
      clear hx
      have next : sameKey space name x = false → ∀ q y, q < j + 1 → l[q]? = some y → sameKey space name y = false := by
        intro he q y hq hy
        by_cases e : q = j
        · subst e; rw [unhide HX] at hy; cases hy; exact he
        · exact (unhide HA) q y (by omega) hy
      have HN := hide next
      clear next
      by_cases e1 : x.space = space
      · have f1 : (x.space == space) = true := by simp [e1]
        cases e2 : (x.name.toList == name.toList) with
        | true =>
          go_wp2
          go_ret
          refine ⟨?_, Below.refl _ _⟩
          rw [idxM_hit (unhide HX) (by simp [sameKey, f1, e2]) (unhide HA)]; rfl
        | false =>
          go_wp2
          go_roundg (gk - 1)
          case measure => omega
          case rel => exact ⟨j + 1, by go_num, by omega, (unhide HN) (by simp [sameKey, e2]), rfl⟩
      · have f1 : (x.space == space) = false := beq_eq_false_iff_ne.2 e1
        go_wp2
        go_roundg (gk - 1)
        case measure => omega
        case rel => exact ⟨j + 1, by go_num, by omega, (unhide HN) (by simp [sameKey, f1]), rfl⟩
    · have hjz : ¬ (j : Int) < (l.length : Int) := by omega
      go_wp2
      go_ret
      refine ⟨?_, Below.refl _ _⟩
      rw [idxM_miss (fun q x hq hx => (unhide HA) q x (by omega) hx)]; rfl

theorem ints_oneCell (l : List Nat) : ∀ u ∈ intsV l, u.oneCell' = true := by
  intro u hu
  obtain ⟨x, _, rfl⟩ := List.mem_map.1 hu
  rfl

theorem IntsIn.row {w : World} {b off : Nat} {l : List Nat} (h : IntsIn w (some ⟨b, off, none⟩) l) : ∀ j v, (intsV l)[j]? = some v → w.cell? ((⟨b, off, none⟩ : Addr).add j) = some v := by
  intro j v hv
  have hadd : (⟨b, off, none⟩ : Addr).add j = ⟨b, off + j, none⟩ := by unfold Addr.add; split <;> simp_all
  rw [hadd]
  simp only [intsV, List.getElem?_map, Option.map_eq_some_iff] at hv
  obtain ⟨x, hx, rfl⟩ := hv
  obtain ⟨b', off', e, hc⟩ := h.cells j x hx
  simp only [Option.some.injEq, Addr.mk.injEq, and_true] at e
  obtain ⟨rfl, rfl⟩ := e
  exact hc
theorem IntsIn.at {w : World} {a : Option Addr} {l : List Nat} (h : IntsIn w a l) (hl : 0 < l.length) : ∃ b off, a = some ⟨b, off, none⟩ := by
  obtain ⟨b, off, e, _⟩ := h.cells 0 l[0] (List.getElem?_eq_getElem hl)
  exact ⟨b, off, e⟩

theorem IntsIn.below {w w' : World} {a : Option Addr} {l : List Nat} (h : IntsIn w a l) (hb : Below w.heap.size w w') : IntsIn w' a l := ⟨fun i x hi => by
  obtain ⟨b, off, e, hc⟩ := h.cells i x hi
  exact ⟨b, off, e, (hb.cell (p := ⟨b, off + i, none⟩) (World.block_lt_of_cell? w _ hc)).trans hc⟩⟩
theorem empty_row (w : World) (e size base : Nat) (hb : base ≤ w.heap.size) : (w.alloc (.cells #[] e)).ownsRow base e size (.slice (some ⟨w.heap.size, 0, none⟩) 0 0) 0 [] := by
  have := World.ownsRow_lit (base := base) (e := e) (size := size) w #[] 0 hb (by simp [maxLen]) (by simp)
  simpa using this

set_option maxHeartbeats 2000000 in
theorem refKids_in (h : Rf w base bR g cap rs) (i : Nat) (r : OneR) (hi : rs[i]? = some r) :
    Calls Try.prog 50 #[.pointer (some ⟨bR, 0, none⟩), .int .i64 i] w fun e w' => ∃ v, e = .returned v ∧ w'.ownsRow w.heap.size 3 1 v r.o.kids.length (intsV r.o.kids) ∧ Below w.heap.size w w' := by
  have hlt : i < rs.length := (List.getElem?_eq_some_iff.1 hi).1
  have HI := hide (refIs_any h i)
  have q1 : hasO (osOf rs) i = true := hasO_of (osOf_get hi)
  rw [q1] at HI
  have hA := h.cR
  have hn := h.most
  have c9 := (h.cells10 hi).2.2.2.2.2.2.2.2.2
  obtain ⟨a, cp, hkv, hin, hkl⟩ := h.kids i r hi
  rw [hkv] at c9
  have lt := h.lt
  generalize r.o.kids = ks at *
  clear h hi hkv q1
  by_cases h0 : 0 < ks.length
  · obtain ⟨b, off, rfl⟩ := hin.at h0
    have HNW := hide ((hin.below ((Below.refl _ w).alloc (Nat.le_refl _) (.cells #[] 3))).row)
    have HE := hide (empty_row w 3 1 w.heap.size (Nat.le_refl _))
    obtain ⟨i0, hi0, hz0, hz1, hz2⟩ := info_parts Try.info3
    clear hin
    go_enter Try.func50, Try.ntmps50
    go_wp2_with (first
      | (go_at_call 79; refine (unhide HI).mono ?_; rintro e w' ⟨rfl, rfl⟩)
      | (at_builtin; go_must (refine wpList_append_lies _ (by rfl) _ _ 41 (by rfl) w.heap.size 3 i0 _ 1 8 Try.underlying41 hi0 hz0 hz1 hz2 rfl (by omega) (.slice (some ⟨w.heap.size, 0, none⟩) 0 0) 0 [] (by rfl) (unhide HE) ⟨b, off, none⟩ ks.length cp (intsV ks) (by rfl) (by simp [intsV]) (unhide HNW) (ints_oneCell ks) h0 (by unfold maxLen; omega) (by omega) (by simp) _ rfl ?_); intro g' cap' w1 hown1 hgrow hat hltg))
    go_ret
    refine ⟨_, rfl, by simpa using hown1, ?_⟩
    exact ((Below.refl _ w).alloc (Nat.le_refl _) _).grown hgrow (by simp) (fun k hk => by simp [Value.ownBlock] at hk; omega)
  · obtain rfl : ks = [] := List.eq_nil_of_length_eq_zero (by omega)
    simp only [List.length_nil] at c9 hkl
    have HE := hide (empty_row w 3 1 w.heap.size (Nat.le_refl _))
    clear h0 hin
    cases a with
    | none =>
      go_enter Try.func50, Try.ntmps50
      go_wp2_with (go_at_call 79; refine (unhide HI).mono ?_; rintro e w' ⟨rfl, rfl⟩)
      go_ret
      exact ⟨_, rfl, unhide HE, (Below.refl _ w).alloc (Nat.le_refl _) _⟩
    | some a =>
      go_enter Try.func50, Try.ntmps50
      go_wp2_with (go_at_call 79; refine (unhide HI).mono ?_; rintro e w' ⟨rfl, rfl⟩)
      go_ret
      exact ⟨_, rfl, unhide HE, (Below.refl _ w).alloc (Nat.le_refl _) _⟩
end
end Go.Proofs.Ytlbkoafeedlfaaa
