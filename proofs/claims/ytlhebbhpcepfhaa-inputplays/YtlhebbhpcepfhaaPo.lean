/-
  The law's helpers: runes (are two lists the same?), all (all code points of a stream, up to the end).
-/
import Derived.Test.YtlhebbhpcepfhaaPp
namespace Go.Proofs.Ytlhebbhpcepfhaa
open Go.RowKit

set_option maxHeartbeats 1000000 in
/-- Are two lists the same? -/
theorem runes_any (w : World) (a b : Option Addr) (xs ys : List Int) (c d : Nat) (ha : RunesIn w a xs) (hb : RunesIn w b ys) (hx : xs.length ≤ 35184372088832) :
    Calls Try.prog 19 #[.slice a xs.length c, .slice b ys.length d] w fun e w' => e = .returned (.bool (decide (xs = ys))) ∧ Below w.heap.size w w' := by
  by_cases hl : xs.length = ys.length
  · have hne : ((xs.length : Int) == (ys.length : Int)) = true := by simp; omega
    have HL := hide hl
    have HX := hide hx
    have HA := hide ha
    have HB := hide hb
    clear hl hx ha hb
    go_enter Try.func19, Try.ntmps19
    go_wp2
    go_loopg [5] xs.length (fun gx s5 wx => ∃ i : Nat, s5 = .int .i64 i ∧ i + gx = xs.length ∧ xs.take i = ys.take i ∧ Below w.heap.size w wx)
    case atStart => exact ⟨0, rfl, by omega, by simp, Below.refl _ _⟩
    case round =>
      obtain ⟨i, rfl, hig, ht, hB⟩ := hrel
      have HG := hide hig
      have HT := hide ht
      have HBB := hide hB
      by_cases hil : i < xs.length
      · have hiz : (i : Int) < (xs.length : Int) := by omega
        have hiy : (i : Int) < (ys.length : Int) := by have := unhide HL; omega
        have hi0 : (0 : Int) ≤ (i : Int) := by omega
        have hw1 : IntKind.i64.wrap ((i : Int) + 1) = (i : Int) + 1 := by have := unhide HX; rw [IntKind.wrap_i64]; omega
        have hjl : i < ys.length := by have := unhide HL; omega
        obtain ⟨b1, o1, ea, hc1⟩ := ((unhide HA).below hB) i xs[i] (List.getElem?_eq_getElem hil)
        obtain ⟨b2, o2, eb, hc2⟩ := ((unhide HB).below hB) i ys[i] (List.getElem?_eq_getElem hjl)
        subst ea eb
        obtain ⟨r1, hr1⟩ : ∃ r, r = xs[i] := ⟨_, rfl⟩
        obtain ⟨r2, hr2⟩ : ∃ r, r = ys[i] := ⟨_, rfl⟩
        have HY : Hid (r1 = r2 → xs.take (i + 1) = ys.take (i + 1)) := hide (fun e => by
          rw [List.take_succ_eq_append_getElem hil, List.take_succ_eq_append_getElem hjl, ht, ← hr1, ← hr2, e])
        have HN : Hid (r1 ≠ r2 → xs ≠ ys) := hide (fun e h => by subst h; exact e (hr1.trans hr2.symm))
        rw [← hr1] at hc1
        rw [← hr2] at hc2
        have HI := hide hil
        clear hig ht hB hil hjl hr1 hr2
        by_cases h12 : r1 = r2
        · have HT2 := hide ((unhide HY) h12)
          have h12b : (r1 == r2) = true := by simpa using h12
          clear HY HN h12
          go_wp2_with fail
          go_quiet (fail)
          go_wp2
          go_roundg (gk - 1)
          case measure => have := unhide HG; have := unhide HI; omega
          case rel => exact ⟨i + 1, by go_num, by have := unhide HG; have := unhide HI; omega, unhide HT2, below_dn (unhide HBB) _⟩
        · have HN2 := hide ((unhide HN) h12)
          have h12b : (r1 == r2) = false := by simpa using h12
          clear HY HN h12
          go_wp2_with fail
          go_quiet (fail)
          go_wp2
          go_ret
          exact ⟨by rw [decide_eq_false (unhide HN2)]; rfl, below_dn (unhide HBB) _⟩
      · have hiz : ¬ (i : Int) < (xs.length : Int) := by omega
        have HE : Hid (xs = ys) := hide (by
          have := unhide HL
          have e1 : i = xs.length := by omega
          rw [e1, List.take_length, this, List.take_length] at ht
          exact ht)
        clear hig ht hB hil
        go_wp2
        go_ret
        exact ⟨by rw [decide_eq_true (unhide HE)]; rfl, unhide HBB⟩
  · have hne : ((xs.length : Int) == (ys.length : Int)) = false := by simp; omega
    have HE : Hid (xs ≠ ys) := hide (fun e => hl (by rw [e]))
    clear hl hx ha hb
    go_enter Try.func19, Try.ntmps19
    go_wp2
    go_ret
    exact ⟨by rw [decide_eq_false (unhide HE)]; rfl, Below.refl _ _⟩

/-- A list grows while a stream is read: neither is part of the other. -/
structure Taking (w wx : World) (base bS : Nat) (F : Nat → Prop) (ys : List Int) (m : StrM) (q : PartM) (F' : Nat → Prop) : Prop where
  part : PartAt wx w.heap.size q
  xs : q.xs = ys
  str : StrS wx base bS m F'
  mod : Mod F w wx
  sub : ∀ j, F' j → F j ∨ w.heap.size ≤ j
  apart : ∀ j, q.own = some j → ¬ F' j

section
variable {w wx w2 w3 : World} {base bS : Nat} {F F' : Nat → Prop} {ys : List Int} {m m2 : StrM} {q q' : PartM}
theorem Taking.next (h : Taking w wx base bS F ys m q F') (hu : UpdS F' wx w2 base bS m2) : ∃ F2, Taking w w2 base bS F ys m2 q F2 := by
  obtain ⟨F2, h1, h2, h3⟩ := hu
  refine ⟨F2, h.part.mod h2 h.apart, h.xs, h1, h.mod.then h2 h.sub, fun j hj => ?_, fun j hj hf => ?_⟩
  · rcases h3 j hj with h4 | h4
    · exact h.sub j h4
    · exact .inr (Nat.le_trans h.mod.size h4)
  · have := (h.part.own_lt hj).2.1
    rcases h3 j hf with h4 | h4
    · exact h.apart j hj h4
    · omega
theorem Taking.more (h : Taking w wx base bS F ys m q F') (o : Obj) {x : Int} (h1 : PartAt w3 w.heap.size q') (h2 : q'.xs = q.xs ++ [x]) (h3 : (wx.alloc o).grownBy w3 q.own) (h4 : q'.own = q.own ∨ q'.own = some (wx.alloc o).heap.size) : Taking w w3 base bS F (ys ++ [x]) m q' F' := by
  have hb : Below wx.heap.size wx (wx.alloc o) := (Below.refl _ _).alloc (Nat.le_refl _) o
  have hm : Mod (fun k => q.own = some k) wx w3 := (Mod.of_below hb).trans (Mod.grown h3 (fun k hk => hk))
  refine ⟨h1, by rw [h2, h.xs], h.str.mod hm (fun k hk e => h.apart k e hk), h.mod.then hm (fun k hk => .inr (h.part.own_lt hk).1), h.sub, fun j hj hf => ?_⟩
  rcases h4 with h5 | h5
  · exact h.apart j (h5 ▸ hj) hf
  · rw [h5] at hj
    cases hj
    have := (h.str.lt hf).2
    simp at this
    omega
end

def restM (m : StrM) (k : Nat) : StrM := { m with parts := m.parts.set (m.parts.length - 1) (m.last.drop k) }
theorem rest_last {m : StrM} (h : 0 < m.parts.length) (k : Nat) : (restM m k).last = m.last.drop k := by
  unfold restM StrM.last
  simp only [List.length_set]
  rw [List.getElem?_set_self (by omega)]
  rfl
theorem rest_zero {m : StrM} (h : 0 < m.parts.length) : restM m 0 = m := by
  unfold restM StrM.last
  rw [List.getElem?_eq_getElem (by omega)]
  simp only [Option.getD_some, List.drop_zero, List.set_getElem_self]
theorem rest_next {m : StrM} (h : 0 < m.parts.length) (k : Nat) : nextM (restM m k) = restM m (k + 1) := by
  unfold nextM
  rw [rest_last h k]
  unfold restM
  simp only [List.length_set, List.set_set, List.tail_drop]
theorem rest_peek {m : StrM} (h : 0 < m.parts.length) {k : Nat} (hk : k < m.last.length) : peekM (restM m k) = (m.last[k], true) := by
  unfold peekM
  rw [rest_last h k, List.drop_eq_getElem_cons hk]
theorem rest_done {m : StrM} (h : 0 < m.parts.length) {k : Nat} (hk : m.last.length ≤ k) : ((peekM (restM m k)).2 = false ∨ (peekM (restM m k)).1 = -1) ∧ nextM (restM m k) = restM m k := by
  refine ⟨?_, ?_⟩
  · unfold peekM
    rw [rest_last h k, List.drop_of_length_le hk]
    simp only
    split
    · exact .inr rfl
    · exact .inl rfl
  · exact next_nil (by unfold restM; simpa using h) (by rw [rest_last h k, List.drop_of_length_le hk])

/-- The stream behind: its last part is read. -/
def drainM (m : StrM) : StrM := { m with parts := m.parts.set (m.parts.length - 1) [] }
theorem rest_all (m : StrM) {k : Nat} (hk : m.last.length ≤ k) : restM m k = drainM m := by
  unfold restM drainM
  rw [List.drop_of_length_le hk]

set_option maxHeartbeats 2000000 in
theorem all_s {w : World} {base bS : Nat} {m : StrM} {F : Nat → Prop} (h : StrS w base bS m F) (hne : ∀ x ∈ m.last, x ≠ -1) (hl : m.last.length ≤ 1048576) :
    Calls Try.prog 18 #[.pointer (some ⟨bS, 0, none⟩)] w fun e w' => ∃ q F', e = .returned q.val ∧ Taking w w' base bS F m.last (drainM m) q F' := by
  have hp := h.pos.1
  have H0 : Hid (Taking w w base bS F (m.last.take 0) (restM m 0) ⟨none, 0, []⟩ F) := hide (by
    rw [rest_zero hp]
    exact ⟨PartAt.nil _ _ _, by simp, h, Mod.refl _ _, fun _ hj => .inl hj, fun j hj => by simp [PartM.own] at hj⟩)
  have HP := hide hp
  have HN := hide hne
  have HL := hide hl
  clear h hp hne hl
  go_enter Try.func18, Try.ntmps18
  go_wp2_with fail
  go_loopg [3] m.last.length (fun gx s3 wx => ∃ (k : Nat) (q : PartM) (F' : Nat → Prop), s3 = q.val ∧ k + gx = m.last.length ∧ Taking w wx base bS F (m.last.take k) (restM m k) q F')
  case atStart => exact ⟨0, ⟨none, 0, []⟩, F, rfl, by omega, unhide H0⟩
  case round =>
    obtain ⟨k, q, F', rfl, hkg, ht⟩ := hrel
    have HG := hide hkg
    have HT := hide ht
    have HNX := hide (next_s ht.str)
    by_cases hk : k < m.last.length
    · have hnx := unhide HNX
      rw [rest_peek (unhide HP) hk, rest_next (unhide HP) k] at hnx
      obtain ⟨r, hr⟩ : ∃ r, r = m.last[k] := ⟨_, rfl⟩
      rw [← hr] at hnx
      have hr1 : (r == -1) = false := by
        have := (unhide HN) r (by rw [hr]; exact List.getElem_mem hk)
        simpa using this
      have HTK : Hid (m.last.take (k + 1) = m.last.take k ++ [r]) := hide (by rw [hr]; exact take_next hk)
      have HNX2 := hide hnx
      have HQL : Hid (q.xs.length + 1 ≤ 35184372088832) := hide (by rw [ht.xs, List.length_take]; have := unhide HL; omega)
      have HK := hide hk
      clear hnx HNX ht hkg hr hk
      go_wp2_with (first
        | (go_at_call 22; go_must (refine (unhide HNX2).mono ?_); rintro e w2 ⟨rfl, hu⟩; obtain ⟨F2, ht2⟩ := (unhide HT).next hu; have HT2 := hide ht2; clear hu ht2)
        | (at_builtin; go_must (refine wpList_part_append (base := w.heap.size) (p := q) (by rfl) _ _ (by rfl) (by rfl) (some ⟨w2.heap.size, 0, none⟩) [r] 1 (by rfl) (by exact (unhide HT2).part.below ((Below.refl _ _).alloc (Nat.le_refl _) _)) (by have := (unhide HT2).mod.size; simp; omega) (by exact one_rune w2 r) (by simpa using unhide HQL) ?_); intro q' w3 g1 g2 g3 g4 g5; have HT3 := hide ((unhide HT2).more _ g1 g2 g3 g4); clear g1 g2 g3 g4 g5))
      go_roundg (gk - 1)
      case measure => have := unhide HG; have := unhide HK; omega
      case rel => exact ⟨k + 1, q', F2, rfl, by have := unhide HG; have := unhide HK; omega, by rw [unhide HTK]; exact unhide HT3⟩
    · obtain ⟨hd1, hd2⟩ := rest_done (unhide HP) (k := k) (by omega)
      have hnx := unhide HNX
      rw [hd2] at hnx
      have HE : Hid (m.last.take k = m.last ∧ restM m k = drainM m) := hide ⟨List.take_of_length_le (by omega), rest_all m (by omega)⟩
      have HNX2 := hide hnx
      clear hnx HNX ht hkg hk hd2
      generalize peekM (restM m k) = pk at HNX2 hd1
      obtain ⟨r, ok⟩ := pk
      simp only at HNX2 hd1
      cases ok
      · clear hd1
        go_wp2_with (go_at_call 22; go_must (refine (unhide HNX2).mono ?_); rintro e w2 ⟨rfl, hu⟩; obtain ⟨F2, ht2⟩ := (unhide HT).next hu; have HT2 := hide ht2; clear hu ht2)
        go_ret
        refine ⟨q, F2, rfl, ?_⟩
        have := unhide HT2
        rw [(unhide HE).1, (unhide HE).2] at this
        exact this
      · have hr1 : (r == -1) = true := by simpa using hd1
        clear hd1
        go_wp2_with (go_at_call 22; go_must (refine (unhide HNX2).mono ?_); rintro e w2 ⟨rfl, hu⟩; obtain ⟨F2, ht2⟩ := (unhide HT).next hu; have HT2 := hide ht2; clear hu ht2)
        go_ret
        refine ⟨q, F2, rfl, ?_⟩
        have := unhide HT2
        rw [(unhide HE).1, (unhide HE).2] at this
        exact this
end Go.Proofs.Ytlhebbhpcepfhaa
