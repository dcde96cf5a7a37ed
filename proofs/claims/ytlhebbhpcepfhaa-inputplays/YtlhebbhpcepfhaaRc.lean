/-
  The document's line ends, and Feed.
-/
import Derived.Test.YtlhebbhpcepfhaaRb
namespace Go.Proofs.Ytlhebbhpcepfhaa
open Go.RowKit

theorem snoc_yes {cr : Bool} {l : List Int} {i : Nat} {r c : Int} (hi : i < l.length) (hr : r = l[i]) (he : endM (endsM cr (l.take i)).2 r = (c, true)) : endsM cr (l.take (i + 1)) = ((endsM cr (l.take i)).1 ++ [c], r == 13) := by
  rw [take_next hi, ← hr, endsM_snoc, he]; rfl
theorem snoc_no {cr : Bool} {l : List Int} {i : Nat} {r c : Int} (hi : i < l.length) (hr : r = l[i]) (he : endM (endsM cr (l.take i)).2 r = (c, false)) : endsM cr (l.take (i + 1)) = ((endsM cr (l.take i)).1, r == 13) := by
  rw [take_next hi, ← hr, endsM_snoc, he]; simp

set_option maxHeartbeats 2000000 in
theorem refEnds_any (w : World) (a : Option Addr) (l : List Int) (c : Nat) (cr : Bool) (hr : RunesIn w a l) (hl : l.length ≤ 35184372088832) :
    Calls Try.prog 42 #[.slice a l.length c, .bool cr] w fun e w' => ∃ p, e = .returned (.tuple #[p.val, .bool (endsM cr l).2]) ∧ PartAt w' w.heap.size p ∧ p.xs = (endsM cr l).1 ∧ Below w.heap.size w w' := by
  have HR := hide hr
  have HL := hide hl
  clear hr hl
  go_enter Try.func42, Try.ntmps42
  go_wp2
  go_loopg [1, 6, 7] l.length (fun gx s1 s6 s7 wx => ∃ (i : Nat) (q : PartM), s7 = .int .i64 i ∧ s6 = q.val ∧ s1 = .bool (endsM cr (l.take i)).2 ∧ i + gx = l.length ∧ PartAt wx w.heap.size q ∧ q.xs = (endsM cr (l.take i)).1 ∧ Below w.heap.size w wx)
  case atStart => exact ⟨0, ⟨none, 0, []⟩, rfl, rfl, rfl, by omega, PartAt.nil _ _ _, rfl, Below.refl _ _⟩
  case round =>
    obtain ⟨i, q, rfl, rfl, rfl, hig, hq, hx, hB⟩ := hrel
    have HG := hide hig
    have HQ := hide hq
    have HX := hide hx
    have HB := hide hB
    by_cases hil : i < l.length
    · have hiz : (i : Int) < (l.length : Int) := by omega
      have hw1 : IntKind.i64.wrap ((i : Int) + 1) = (i : Int) + 1 := by have := unhide HL; rw [IntKind.wrap_i64]; omega
      obtain ⟨b, off, ha, hcell⟩ := ((unhide HR).below hB) i l[i] (List.getElem?_eq_getElem hil)
      obtain ⟨r, hr⟩ : ∃ r, r = l[i] := ⟨_, rfl⟩
      rw [← hr] at hcell
      have HY : Hid (∀ c, endM (endsM cr (l.take i)).2 r = (c, true) → endsM cr (l.take (i + 1)) = ((endsM cr (l.take i)).1 ++ [c], r == 13)) := hide (fun c he => snoc_yes hil hr he)
      have HN : Hid (∀ c, endM (endsM cr (l.take i)).2 r = (c, false) → endsM cr (l.take (i + 1)) = ((endsM cr (l.take i)).1, r == 13)) := hide (fun c he => snoc_no hil hr he)
      have HQL : Hid (q.xs.length + 1 ≤ 35184372088832) := hide (by have h1 := endsM_len cr (l.take i); have h2 := unhide HL; rw [List.length_take] at h1; rw [hx]; omega)
      have HI := hide hil
      subst ha
      clear hig hq hx hB hil hr
      have key : ∀ (v : Int) (w3 : World) (q' : PartM), PartAt w3 w.heap.size q' → q'.xs = q.xs ++ [v] → (wr.alloc (.cells #[.int .i32 v] 21)).grownBy w3 q.own → Below w.heap.size w w3 := by
        intro v w3 q' _ _ g3
        have B1 := (unhide HB).alloc (unhide HB).size (.cells #[.int .i32 v] 21)
        exact B1.trans ((Mod.grown (F := fun k => q.own = some k) g3 (fun k hk => hk)).below B1.size (fun k hk => ((unhide HQ).own_lt hk).1))
      have HKEY := hide key
      clear key
      generalize hcr : (endsM cr (l.take i)).2 = crr at HY HN
      clear hcr
      cases h10 : (r == 10 && crr) with
      | true =>
        simp only [Bool.and_eq_true] at h10
        obtain ⟨h10, rfl⟩ := h10
        have h13 : (r == 13) = false := by simp at h10 ⊢; omega
        have HT := hide ((unhide HN) 0 (by simp [endM, h10]))
        rw [h13] at HT
        clear HY HN
        go_wp2
        go_roundg (gk - 1)
        case measure => have := unhide HG; have := unhide HI; omega
        case rel => exact ⟨i + 1, q, by go_num, rfl, by rw [unhide HT], by have := unhide HG; have := unhide HI; omega, unhide HQ, by rw [unhide HT]; exact unhide HX, unhide HB⟩
      | false =>
        cases h13 : (r == 13) with
        | true =>
          have h10' : (r == 10) = false := by simp at h13 ⊢; omega
          have HT := hide ((unhide HY) 10 (by simp [endM, h10', h13]))
          rw [h13] at HT
          clear HY HN h10
          go_wp2_with (at_builtin; go_must (refine wpList_part_append (base := w.heap.size) (p := q) (by rfl) _ _ (by rfl) (by rfl) (some ⟨wr.heap.size, 0, none⟩) [10] 1 (by rfl) (by exact (unhide HQ).below ((Below.refl _ _).alloc (Nat.le_refl _) _)) (by have := (unhide HB).size; simp; omega) (by exact one_rune wr 10) (by simpa using unhide HQL) ?_); intro q' w3 g1 g2 g3 g4 g5; have HN1 := hide g1; have HN2 := hide g2; have HN3 := hide ((unhide HKEY) _ _ _ g1 g2 g3); clear g1 g2 g3 g4 g5)
          go_roundg (gk - 1)
          case measure => have := unhide HG; have := unhide HI; omega
          case rel => exact ⟨i + 1, q', by go_num, rfl, by rw [unhide HT], by have := unhide HG; have := unhide HI; omega, unhide HN1, by rw [unhide HT, unhide HN2, unhide HX], unhide HN3⟩
        | false =>
          have he : endM crr r = (r, true) := by
            unfold endM
            rw [if_neg (by rw [Bool.and_comm]; simp [h10]), if_neg (by simp [h13])]
          have HT := hide ((unhide HY) r he)
          rw [h13] at HT
          clear HY HN he
          cases h10r : (r == 10) with
          | false =>
            clear h10
            go_wp2_with (at_builtin; go_must (refine wpList_part_append (base := w.heap.size) (p := q) (by rfl) _ _ (by rfl) (by rfl) (some ⟨wr.heap.size, 0, none⟩) [r] 1 (by rfl) (by exact (unhide HQ).below ((Below.refl _ _).alloc (Nat.le_refl _) _)) (by have := (unhide HB).size; simp; omega) (by exact one_rune wr r) (by simpa using unhide HQL) ?_); intro q' w3 g1 g2 g3 g4 g5; have HN1 := hide g1; have HN2 := hide g2; have HN3 := hide ((unhide HKEY) _ _ _ g1 g2 g3); clear g1 g2 g3 g4 g5)
            go_roundg (gk - 1)
            case measure => have := unhide HG; have := unhide HI; omega
            case rel => exact ⟨i + 1, q', by go_num, rfl, by rw [unhide HT], by have := unhide HG; have := unhide HI; omega, unhide HN1, by rw [unhide HT, unhide HN2, unhide HX], unhide HN3⟩
          | true =>
            obtain rfl : crr = false := by simpa [h10r] using h10
            clear h10
            go_wp2_with (at_builtin; go_must (refine wpList_part_append (base := w.heap.size) (p := q) (by rfl) _ _ (by rfl) (by rfl) (some ⟨wr.heap.size, 0, none⟩) [r] 1 (by rfl) (by exact (unhide HQ).below ((Below.refl _ _).alloc (Nat.le_refl _) _)) (by have := (unhide HB).size; simp; omega) (by exact one_rune wr r) (by simpa using unhide HQL) ?_); intro q' w3 g1 g2 g3 g4 g5; have HN1 := hide g1; have HN2 := hide g2; have HN3 := hide ((unhide HKEY) _ _ _ g1 g2 g3); clear g1 g2 g3 g4 g5)
            go_roundg (gk - 1)
            case measure => have := unhide HG; have := unhide HI; omega
            case rel => exact ⟨i + 1, q', by go_num, rfl, by rw [unhide HT], by have := unhide HG; have := unhide HI; omega, unhide HN1, by rw [unhide HT, unhide HN2, unhide HX], unhide HN3⟩
    · have hiz : ¬ (i : Int) < (l.length : Int) := by omega
      have HT : Hid (l.take i = l) := hide (List.take_of_length_le (by omega))
      clear hig hq hx hB hil
      go_wp2
      go_ret2
      refine ⟨q, ?_, unhide HQ, by rw [unhide HX, unhide HT], unhide HB⟩
      rw [unhide HT]
      rfl

def feedR (r : RefM) (l : List Int) : Int × RefM :=
  if r.over then (5, r) else if l.length + r.L.length ≤ 1048576 then (0, { r with L := r.L ++ (endsM r.cr l).1, cr := (endsM r.cr l).2 }) else (9, r)

set_option maxHeartbeats 2000000 in
theorem refFeed_s {w : World} {base bW : Nat} {r : RefM} {F : Nat → Prop} (h : RefS w base bW r F) (hL : r.L.length ≤ 1048576) (a : Option Addr) (l : List Int) (c : Nat) (hr : RunesIn w a l) (hl : l.length ≤ 35184372088832) :
    Calls Try.prog 27 #[.pointer (some ⟨bW, 0, none⟩), .slice a l.length c] w fun e w' => e = .returned (.int .i64 (feedR r l).1) ∧ UpdR F w w' base bW (feedR r l).2 := by
  have hS := h
  obtain ⟨p, mv, h, e, hF⟩ := h
  obtain ⟨h0, h1, h2, h3, h4, h5⟩ := h.cells
  unfold feedR
  have HS := hide hS
  cases ho : r.over with
  | true =>
    rw [ho] at h3
    rw [if_pos rfl]
    clear h h5 hF hS hr e
    go_enter Try.func27, Try.ntmps27
    go_wp2
    go_ret
    exact ⟨rfl, (unhide HS).upd (Below.refl _ _)⟩
  | false =>
    rw [ho] at h3
    rw [if_neg (by simp)]
    have hval : p.val = .slice p.a p.xs.length p.cap := rfl
    have hpl : p.xs.length = r.L.length := by rw [e]
    have hws : IntKind.i64.wrap (1048576 - (p.xs.length : Int)) = 1048576 - (p.xs.length : Int) := by rw [IntKind.wrap_i64]; omega
    have hpz : (p.xs.length : Int) ≤ 1048576 := by omega
    by_cases hf : l.length + r.L.length ≤ 1048576
    · rw [if_pos hf]
      have hfz : ¬ (1048576 - (p.xs.length : Int)) < (l.length : Int) := by omega
      have HEN := hide (refEnds_any w a l c r.cr hr hl)
      have f0 := h5 0
      have f2 := h5 2
      have hlt := h.lt
      have H := hide h
      have HF := hide hF
      have HE := hide e
      have HEL := hide (endsM_len r.cr l)
      have HPL := hide hpl
      have HFF := hide hf
      have HB : Hid (base ≤ w.heap.size) := hide (Nat.le_trans h.lo (Nat.le_of_lt h.lt))
      clear h h5 hF hS hr e hpl hf
      rw [hval] at h0
      go_enter Try.func27, Try.ntmps27
      go_wp2_with (first
        | (go_at_call 42; go_must (refine (unhide HEN).mono ?_); rintro e w1 ⟨x, rfl, hx1, hx2, hx3⟩; have HX1 := hide hx1; have HX2 := hide hx2; have HX3 := hide hx3; have HR1 := hide ((unhide H).below hx3); have c1 : w1.cell? ⟨bW, 0, none⟩ = some (.slice p.a p.xs.length p.cap) := (hx3.cell (p := ⟨bW, 0, none⟩) hlt).trans h0; have c2 : w1.cell? ⟨bW, 2, none⟩ = some (.bool r.cr) := (hx3.cell (p := ⟨bW, 2, none⟩) hlt).trans h2; have c3 : w1.frozen? ⟨bW, 2, none⟩ = false := (hx3.frozen (p := ⟨bW, 2, none⟩) hlt).trans f2; have c4 : w1.frozen? ⟨bW, 0, none⟩ = false := (hx3.frozen (p := ⟨bW, 0, none⟩) hlt).trans f0; have hlt1 : bW < w1.heap.size := Nat.lt_of_lt_of_le hlt hx3.size; clear hx1 hx2 hx3)
        | (at_builtin; go_must (refine wpList_part_append (base := base) (p := p) (by rfl) _ _ (by rfl) (by rfl) x.a x.xs x.cap (by rfl) (by exact ((unhide HR1).setCr _).part) (by simp; have := unhide HB; have := (unhide HX3).size; omega) (by exact ((unhide HX1).kept (fun k hk => setCell_far _ _ _ (fun e => by have := ((unhide HX1).own_lt hk).1; simp at e; omega))).runes) (by have h1 := unhide HEL; have h2 := unhide HPL; have h3 := unhide HFF; rw [unhide HX2]; omega) ?_); rintro ⟨a', c', x'⟩ w3 g1 g2 g3 g4 g5; simp only [PartM.val_mk]; have HG1 := hide g1; have HG2 := hide g2; have HG3 := hide g3; have HG4 := hide g4; have k1 : w3.heap[bW]? = _ := g3.block bW (by simp; omega) (fun e => ((unhide HR1).setCr (endsM r.cr l).2).ne.1 e.symm); have k2 : w3.cell? ⟨bW, 0, none⟩ = some (.slice p.a p.xs.length p.cap) := (World.cell?_of_block k1).trans (((unhide HR1).setCr (endsM r.cr l).2).cells.1); have k3 : w3.frozen? ⟨bW, 0, none⟩ = false := (World.frozen?_of_block k1).trans (((unhide HR1).setCr (endsM r.cr l).2).cells.2.2.2.2.2 0); clear g1 g2 g3 g4 g5 k1))
      go_ret
      have fb : F bW := ((unhide HF) bW).2 (.inl rfl)
      have hmg : Mod (fun k => p.own = some k) (w1.setCell ⟨bW, 2, none⟩ (.bool (endsM r.cr l).2)) w3 := Mod.grown (unhide HG3) (fun k hk => hk)
      have R := ((unhide HR1).setCr (endsM r.cr l).2).setL hmg (unhide HG1)
      rw [ho] at R
      refine ⟨rfl, footR bW ⟨a', c', x'⟩ mv, ⟨⟨a', c', x'⟩, mv, R, ?_, fun _ => Iff.rfl⟩, ?_, ?_⟩
      · rw [unhide HG2, unhide HX2, unhide HE]
      · exact (((Mod.of_below (unhide HX3)).trans (Mod.setCell _ _ _ fb)).trans (hmg.mono (fun k _ hk => ((unhide HF) k).2 (.inr (.inl hk))))).trans (Mod.setCell _ _ _ fb)
      · rintro k (rfl | hk | hk)
        · exact .inl fb
        · rcases unhide HG4 with e | e
          · exact .inl (((unhide HF) k).2 (.inr (.inl (e ▸ hk))))
          · rw [e] at hk
            cases hk
            right
            have := (unhide HX3).size
            simpa using this
        · exact .inl (((unhide HF) k).2 (.inr (.inr hk)))
    · rw [if_neg hf]
      have hfz : (1048576 - (p.xs.length : Int)) < (l.length : Int) := by omega
      clear h h5 hF hS hr e hpl hf
      rw [hval] at h0
      go_enter Try.func27, Try.ntmps27
      go_wp2
      go_ret
      exact ⟨rfl, (unhide HS).upd (Below.refl _ _)⟩
end Go.Proofs.Ytlhebbhpcepfhaa
