/-
  The document's Next.
-/
import Derived.Test.YtlhebbhpcepfhaaRc
namespace Go.Proofs.Ytlhebbhpcepfhaa
open Go.RowKit

/-- The first i of them turned. -/
def updN (f : Int → Int) (M : List Int) (i : Nat) : List Int := (M.take i).map f ++ M.drop i
theorem updN_len (f : Int → Int) (M : List Int) (i : Nat) : (updN f M i).length = M.length := by simp [updN]; omega
theorem updN_at {f : Int → Int} {M : List Int} {i : Nat} (hi : i < M.length) : (updN f M i)[i]? = some M[i] := by
  unfold updN
  rw [List.getElem?_append_right (by simp; omega)]
  simp
  rw [show i - min i M.length = 0 by omega]
  simp [hi]
theorem updN_succ {f : Int → Int} {M : List Int} {i : Nat} (hi : i < M.length) : updN f M (i + 1) = (updN f M i).set i (f M[i]) := by
  apply List.ext_getElem?
  intro j
  unfold updN
  by_cases e : j = i
  · subst e
    rw [List.getElem?_set_self (by simp; omega), List.getElem?_append_left (by simp; omega)]
    simp [hi]
  · rw [List.getElem?_set_ne (Ne.symm e)]
    by_cases hj : j < i
    · rw [List.getElem?_append_left (by simp; omega), List.getElem?_append_left (by simp; omega)]
      simp [List.getElem?_take]
      rw [if_pos hj, if_pos (by omega)]
    · rw [List.getElem?_append_right (by simp; omega), List.getElem?_append_right (by simp; omega)]
      simp
      congr 1
      omega
theorem updN_all (f : Int → Int) (M : List Int) : updN f M M.length = M.map f := by simp [updN]
theorem updN_zero (f : Int → Int) (M : List Int) : updN f M 0 = M := by simp [updN]

section
variable {w : World} {base bW g n cap : Nat} {p : PartM} {M : List Int} {cr over gone : Bool}
theorem RefAt.lenM (h : RefAt w base bW p (.slice (some ⟨g, 0, none⟩) n cap) M cr over gone) : n = M.length := by
  rcases h.row.2 with ⟨h', _⟩ | ⟨g', cap', cur, h', _, _, _⟩
  · simp at h'
  · simp at h'
    omega
theorem RefAt.cellM (h : RefAt w base bW p (.slice (some ⟨g, 0, none⟩) n cap) M cr over gone) {i : Nat} {v : Int} (hi : M[i]? = some v) : w.cell? ⟨g, i, none⟩ = some (.int .i64 v) ∧ w.frozen? ⟨g, i, none⟩ = false := by
  have hlt := (List.getElem?_eq_some_iff.1 hi).1
  have hn := h.lenM
  subst hn
  refine ⟨?_, h.row.frozenAt i⟩
  rw [h.row.cellAt i (by omega)]
  simp [intsV, hi]
theorem RefAt.setAt (h : RefAt w base bW p (.slice (some ⟨g, 0, none⟩) n cap) M cr over gone) (i : Nat) (v : Int) : RefAt (w.setCell ⟨g, i, none⟩ (.int .i64 v)) base bW p (.slice (some ⟨g, 0, none⟩) n cap) (M.set i v) cr over gone := by
  have hne := h.ne
  have hgb : g ≠ bW := fun e => hne.2.1 (by simp [Value.ownBlock, e])
  have hn := h.lenM
  subst hn
  have hst := (h.row.stored i (.int .i64 v)).1
  have e1 : (intsV M).set i (.int .i64 v) = intsV (M.set i v) := by simp [intsV, List.map_set]
  rw [e1] at hst
  refine ⟨by rw [setCell_far _ _ _ (fun e => hgb e.symm)]; exact h.box, h.part.kept (fun k hk => setCell_far _ _ _ (fun e => hne.2.2 k hk (by simp [Value.ownBlock, e]))), by rw [List.length_set]; exact hst, h.lo⟩
end

def nextR (r : RefM) : RefM := if (peekR r).2 = true ∧ r.L.length ≠ 0 then { r with L := r.L.tail, M := r.M.map fun x => x - 1 } else r

/-- While the marks are turned. -/
structure Turning (F : Nat → Prop) (w wx : World) (base bW : Nat) (p : PartM) (mv : Value) (M : List Int) (cr over gone : Bool) : Prop where
  ref : RefAt wx base bW p mv M cr over gone
  mod : Mod F w wx

set_option maxHeartbeats 2000000 in
theorem refNext_s {w : World} {base bW : Nat} {r : RefM} {F : Nat → Prop} (h : RefS w base bW r F) (hm : r.M.length ≤ 22) (hM : ∀ x ∈ r.M, 0 ≤ x ∧ x ≤ 1048576) :
    Calls Try.prog 32 #[.pointer (some ⟨bW, 0, none⟩)] w fun e w' => e = .returned (.tuple #[.int .i32 (peekR r).1, .bool (peekR r).2]) ∧ UpdR F w w' base bW (nextR r) := by
  have HPK := hide (refPeek_s h hm)
  have HS : Hid (∀ n, RefS (w.drewN n) base bW r F) := hide (fun n => h.below (below_dw w n))
  unfold nextR
  obtain ⟨c, ok, hpk⟩ : ∃ c ok, peekR r = (c, ok) := ⟨_, _, rfl⟩
  rw [hpk] at HPK ⊢
  simp only
  obtain ⟨p, mv, h, e, hF⟩ := h
  obtain ⟨ga, cap, rfl, hc1, hc2, hg⟩ := row_form h.row
  obtain ⟨h0, h1, h2, h3, h4, h5⟩ := h.cells
  have hval : p.val = .slice p.a p.xs.length p.cap := rfl
  rw [hval] at h0
  cases ok with
  | false =>
    rw [if_neg (by simp)]
    clear h h5 hF e hg hc1 hc2 hpk
    go_enter Try.func32, Try.ntmps32
    go_wp2_with (go_at_call 33; go_must (refine (unhide HPK).mono ?_); rintro e w1 ⟨rfl, n, rfl⟩)
    go_ret2
    exact ⟨rfl, _, (unhide HS) _, Mod.of_below (below_dw _ _), fun _ hk => .inl hk⟩
  | true =>
    by_cases hL : r.L.length = 0
    · rw [if_neg (fun h => h.2 hL)]
      have hxz : ¬ (0 : Int) < (p.xs.length : Int) := by rw [e]; omega
      clear h h5 hF e hg hc1 hc2 hpk
      go_enter Try.func32, Try.ntmps32
      go_wp2_with (go_at_call 33; go_must (refine (unhide HPK).mono ?_); rintro e w1 ⟨rfl, n, rfl⟩)
      go_ret2
      exact ⟨rfl, _, (unhide HS) _, Mod.of_below (below_dw _ _), fun _ hk => .inl hk⟩
    · rw [if_pos ⟨rfl, hL⟩]
      have hxz : (0 : Int) < (p.xs.length : Int) := by rw [e]; omega
      have hxz2 : (1 : Int) ≤ (p.xs.length : Int) := by omega
      have f0 := h5 0
      have hlt := h.lt
      have hpart := h.part
      obtain ⟨pa, pc, xs⟩ := p
      simp only at e hxz hxz2 h0
      cases xs with
      | nil => simp at hxz
      | cons x xs =>
        obtain ⟨b, off, ha, _⟩ := hpart.runes 0 x rfl
        simp only at ha
        subst ha
        have hlen := hpart.len
        have hmo := hpart.most
        simp only at hlen hmo
        unfold maxLen at hmo
        obtain ⟨ht1, ht2⟩ := part_tail hpart
        obtain ⟨N, hN⟩ : ∃ N, r.M.length = N := ⟨_, rfl⟩
        rw [hN] at h1 hm hc1 hg
        have HF := hide hF
        have HEX : Hid (r.L.tail = xs) := hide (by rw [← e]; rfl)
        have HNN := hide hN
        have HM := hide hM
        obtain ⟨p', hp'⟩ : ∃ p' : PartM, p' = ⟨some (if pc = 1 then ⟨b, off, none⟩ else ⟨b, off + 1, none⟩), pc - 1, xs⟩ := ⟨_, rfl⟩
        rw [← hp'] at ht1 ht2
        have hw0 : ∀ n, RefAt (w.drewN n) base bW ⟨some ⟨b, off, none⟩, pc, x :: xs⟩ (.slice ga N cap) r.M r.cr r.over r.gone := fun n => by
          have := h.below (below_dw w n)
          rw [hN] at this
          exact this
        have fb : F bW := (hF bW).2 (.inl rfl)
        have HT0 : Hid (∀ n, Turning F w ((w.drewN n).setCell ⟨bW, 0, none⟩ p'.val) base bW p' (.slice ga N cap) r.M r.cr r.over r.gone) := hide (fun n =>
          ⟨(hw0 n).setL (Mod.refl _ _) (ht1.below (below_dw w n)), (Mod.of_below (below_dw w n)).trans (Mod.setCell _ _ _ fb)⟩)
        have HP2 := hide ht2
        have HPX : Hid (p'.xs = xs) := hide (by rw [hp'])
        have hpv : p'.val = .slice (some (if pc = 1 then ⟨b, off, none⟩ else ⟨b, off + 1, none⟩)) xs.length (pc - 1) := by rw [hp']; rfl
        clear h h5 hF e hpk hpart ht1 ht2 hw0 hM
        by_cases hp1 : pc = 1
        · rw [if_pos hp1] at hpv
          subst hp1
          go_enter Try.func32, Try.ntmps32
          go_wp2_with (go_at_call 33; go_must (refine (unhide HPK).mono ?_); rintro e w1 ⟨rfl, n, rfl⟩)
          go_loopg [6] N (fun gx s6 wx => ∃ i : Nat, s6 = .int .i64 i ∧ i + gx = N ∧ Turning F w wx base bW p' (.slice ga N cap) (updN (fun x => x - 1) r.M i) r.cr r.over r.gone)
          case atStart =>
            refine ⟨0, rfl, by omega, ?_⟩
            rw [updN_zero]
            have := (unhide HT0) n
            rw [hpv] at this
            exact this
          case round =>
            obtain ⟨i, rfl, hig, ht⟩ := hrel
            obtain ⟨d0, d1, d2, d3, d4, d5⟩ := ht.ref.cells
            have HG := hide hig
            have HT := hide ht
            by_cases hil : i < N
            · obtain ⟨g, rfl⟩ := hg (by omega)
              have hiz : (i : Int) < (N : Int) := by omega
              have hw1 : IntKind.i64.wrap ((i : Int) + 1) = (i : Int) + 1 := by rw [IntKind.wrap_i64]; omega
              have hlM : i < r.M.length := by have := unhide HNN; omega
              have hat := updN_at (f := fun x => x - 1) hlM
              obtain ⟨cc, cf⟩ := ht.ref.cellM hat
              have hvb := (unhide HM) r.M[i] (List.getElem_mem hlM)
              have hset := ht.ref.setAt i (r.M[i] - 1)
              have e2 : updN (fun x => x - 1) r.M (i + 1) = (updN (fun x => x - 1) r.M i).set i (r.M[i] - 1) := updN_succ hlM
              rw [← e2] at hset
              generalize r.M[i] = v at cc hvb hset
              have hwv : IntKind.i64.wrap (v - 1) = v - 1 := by rw [IntKind.wrap_i64]; omega
              have fg : F g := ((unhide HF) g).2 (.inr (.inr rfl))
              have HT2 : Hid (Turning F w (wr.setCell ⟨g, i, none⟩ (.int .i64 (v - 1))) base bW p' (.slice (some ⟨g, 0, none⟩) N cap) (updN (fun x => x - 1) r.M (i + 1)) r.cr r.over r.gone) := hide ⟨hset, ht.mod.trans (Mod.setCell _ _ _ fg)⟩
              have HI := hide hil
              clear ht hset e2 hat hlM hig hil d5 hg HT
              go_wp2
              go_roundg (gk - 1)
              case measure => have := unhide HG; have := unhide HI; omega
              case rel => exact ⟨i + 1, by go_num, by have := unhide HG; have := unhide HI; omega, unhide HT2⟩
            · have hiz : ¬ (i : Int) < (N : Int) := by omega
              have e1 : updN (fun x => x - 1) r.M i = r.M.map fun x => x - 1 := by
                rw [show i = r.M.length by have := unhide HNN; omega]
                exact updN_all _ _
              rw [e1] at HT
              clear ht hig hil d5 hg e1
              go_wp2
              go_ret2
              refine ⟨rfl, footR bW p' (.slice ga N cap), ⟨p', _, (unhide HT).ref, by rw [unhide HPX, unhide HEX], fun _ => Iff.rfl⟩, (unhide HT).mod, ?_⟩
              rintro k (rfl | hk | hk)
              · exact .inl fb
              · exact .inl (((unhide HF) k).2 (.inr (.inl ((unhide HP2) k hk))))
              · exact .inl (((unhide HF) k).2 (.inr (.inr (by rw [show (Value.slice ga r.M.length cap).ownBlock = (Value.slice ga N cap).ownBlock by cases ga <;> rfl]; exact hk))))
        · rw [if_neg hp1] at hpv
          have hp2 : ¬ pc - 1 = 0 := by omega
          go_enter Try.func32, Try.ntmps32
          go_wp2_with (go_at_call 33; go_must (refine (unhide HPK).mono ?_); rintro e w1 ⟨rfl, n, rfl⟩)
          go_loopg [6] N (fun gx s6 wx => ∃ i : Nat, s6 = .int .i64 i ∧ i + gx = N ∧ Turning F w wx base bW p' (.slice ga N cap) (updN (fun x => x - 1) r.M i) r.cr r.over r.gone)
          case atStart =>
            refine ⟨0, rfl, by omega, ?_⟩
            rw [updN_zero]
            have := (unhide HT0) n
            rw [hpv] at this
            exact this
          case round =>
            obtain ⟨i, rfl, hig, ht⟩ := hrel
            obtain ⟨d0, d1, d2, d3, d4, d5⟩ := ht.ref.cells
            have HG := hide hig
            have HT := hide ht
            by_cases hil : i < N
            · obtain ⟨g, rfl⟩ := hg (by omega)
              have hiz : (i : Int) < (N : Int) := by omega
              have hw1 : IntKind.i64.wrap ((i : Int) + 1) = (i : Int) + 1 := by rw [IntKind.wrap_i64]; omega
              have hlM : i < r.M.length := by have := unhide HNN; omega
              have hat := updN_at (f := fun x => x - 1) hlM
              obtain ⟨cc, cf⟩ := ht.ref.cellM hat
              have hvb := (unhide HM) r.M[i] (List.getElem_mem hlM)
              have hset := ht.ref.setAt i (r.M[i] - 1)
              have e2 : updN (fun x => x - 1) r.M (i + 1) = (updN (fun x => x - 1) r.M i).set i (r.M[i] - 1) := updN_succ hlM
              rw [← e2] at hset
              generalize r.M[i] = v at cc hvb hset
              have hwv : IntKind.i64.wrap (v - 1) = v - 1 := by rw [IntKind.wrap_i64]; omega
              have fg : F g := ((unhide HF) g).2 (.inr (.inr rfl))
              have HT2 : Hid (Turning F w (wr.setCell ⟨g, i, none⟩ (.int .i64 (v - 1))) base bW p' (.slice (some ⟨g, 0, none⟩) N cap) (updN (fun x => x - 1) r.M (i + 1)) r.cr r.over r.gone) := hide ⟨hset, ht.mod.trans (Mod.setCell _ _ _ fg)⟩
              have HI := hide hil
              clear ht hset e2 hat hlM hig hil d5 hg HT
              go_wp2
              go_roundg (gk - 1)
              case measure => have := unhide HG; have := unhide HI; omega
              case rel => exact ⟨i + 1, by go_num, by have := unhide HG; have := unhide HI; omega, unhide HT2⟩
            · have hiz : ¬ (i : Int) < (N : Int) := by omega
              have e1 : updN (fun x => x - 1) r.M i = r.M.map fun x => x - 1 := by
                rw [show i = r.M.length by have := unhide HNN; omega]
                exact updN_all _ _
              rw [e1] at HT
              clear ht hig hil d5 hg e1
              go_wp2
              go_ret2
              refine ⟨rfl, footR bW p' (.slice ga N cap), ⟨p', _, (unhide HT).ref, by rw [unhide HPX, unhide HEX], fun _ => Iff.rfl⟩, (unhide HT).mod, ?_⟩
              rintro k (rfl | hk | hk)
              · exact .inl fb
              · exact .inl (((unhide HF) k).2 (.inr (.inl ((unhide HP2) k hk))))
              · exact .inl (((unhide HF) k).2 (.inr (.inr (by rw [show (Value.slice ga r.M.length cap).ownBlock = (Value.slice ga N cap).ownBlock by cases ga <;> rfl]; exact hk))))
end Go.Proofs.Ytlhebbhpcepfhaa
