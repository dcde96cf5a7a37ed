/-
  The document's Write.
-/
import Derived.Test.YtlhebbhpcepfhaaRd
namespace Go.Proofs.Ytlhebbhpcepfhaa
open Go.RowKit

theorem wpList_part_append_n {w : World} {base : Nat} {p : PartM} {ops : Array Oper} {rest : List Oper} {o : Oper} {act : Act} {Q : Exit → Act → World → Prop} (hgd : o.guard = none) (s x : Operand)
    (ho : o.op = .call { callee := .builtin .append, args := #[s, x], argTypes := #[28, 28] }) (hs : act.eval s = p.val) (a : Option Addr) (l : List Int) (n c : Nat) (hn : l.length = n) (hx : act.eval x = .slice a n c)
    (hp : PartAt w base p) (hb : base ≤ w.heap.size) (hl : RunesIn w a l) (hm : p.xs.length + l.length ≤ 35184372088832)
    (h : ∀ p' w', PartAt w' base p' → p'.xs = p.xs ++ l → w.grownBy w' p.own → (p'.own = p.own ∨ p'.own = some w.heap.size) → wpList Try.prog ops Q rest (act.put o.dst p'.val) w') :
    wpList Try.prog ops Q (o :: rest) act w := by
  subst hn
  exact wpList_part_append hgd s x ho hs a l c hx hp hb hl hm (fun p' w' h1 h2 h3 h4 _ => h p' w' h1 h2 h3 h4)

def writeR (r : RefM) (l : List Int) : Int × RefM :=
  if r.M.length = 0 then (5, r) else if l.length + r.L.length ≤ 1048576 then (0, { r with L := r.L.take (lastR r).toNat ++ (endsM false l).1 ++ r.L.drop (lastR r).toNat, M := r.M.map fun x => x + ((endsM false l).1.length : Int) }) else (9, r)

/-- A list that grows in new memory. -/
structure Grown3 (w wx : World) (q : PartM) (l : List Int) : Prop where
  part : PartAt wx w.heap.size q
  xs : q.xs = l
  bel : Below w.heap.size w wx
theorem Grown3.next {w wx w2 : World} {q q' : PartM} {l k : List Int} (h : Grown3 w wx q l) (h1 : PartAt w2 w.heap.size q') (h2 : q'.xs = q.xs ++ k) (h3 : wx.grownBy w2 q.own) : Grown3 w w2 q' (l ++ k) :=
  ⟨h1, by rw [h2, h.xs], h.bel.trans ((Mod.grown (F := fun k => q.own = some k) h3 (fun _ hk => hk)).below h.bel.size (fun k hk => (h.part.own_lt hk).1))⟩

section
variable {w : World} {base bW : Nat} {r : RefM} {F : Nat → Prop}
theorem refWrite_none (h : RefS w base bW r F) (hz : r.M.length = 0) (u : Value) : Calls Try.prog 31 #[.pointer (some ⟨bW, 0, none⟩), u] w fun e w' => e = .returned (.int .i64 5) ∧ UpdR F w w' base bW r := by
  have HS := hide h
  obtain ⟨p, mv, h, e, hF⟩ := h
  obtain ⟨ga, cap, rfl, hc1, hc2, hg⟩ := row_form h.row
  obtain ⟨h0, h1, h2, h3, h4, h5⟩ := h.cells
  rw [hz] at h1
  clear h h5 hF e hc1 hc2 hg
  go_enter Try.func31, Try.ntmps31
  go_wp2
  go_ret
  exact ⟨rfl, (unhide HS).upd (Below.refl _ _)⟩
theorem refWrite_full (h : RefS w base bW r F) (hz : r.M.length ≠ 0) (hL : r.L.length ≤ 1048576) (a : Option Addr) (n c : Nat) (hf : ¬ n + r.L.length ≤ 1048576) : Calls Try.prog 31 #[.pointer (some ⟨bW, 0, none⟩), .slice a n c] w fun e w' => e = .returned (.int .i64 9) ∧ UpdR F w w' base bW r := by
  have HS := hide h
  obtain ⟨p, mv, h, e, hF⟩ := h
  obtain ⟨ga, cap, rfl, hc1, hc2, hg⟩ := row_form h.row
  obtain ⟨h0, h1, h2, h3, h4, h5⟩ := h.cells
  obtain ⟨N, hN⟩ : ∃ N, r.M.length = N := ⟨_, rfl⟩
  rw [hN] at h1 hz
  have hz' : ((N : Int) == 0) = false := by rw [beq_eq_false_iff_ne]; omega
  have hval : p.val = .slice p.a p.xs.length p.cap := rfl
  rw [hval] at h0
  have hpl : p.xs.length = r.L.length := by rw [e]
  have hws : IntKind.i64.wrap (1048576 - (p.xs.length : Int)) = 1048576 - (p.xs.length : Int) := by rw [IntKind.wrap_i64]; omega
  have hpz : (p.xs.length : Int) ≤ 1048576 := by omega
  have hfz : (1048576 - (p.xs.length : Int)) < (n : Int) := by omega
  clear h h5 hF e hc1 hc2 hg hN hpl hf hL
  go_enter Try.func31, Try.ntmps31
  go_wp2
  go_ret
  exact ⟨rfl, (unhide HS).upd (Below.refl _ _)⟩

set_option maxHeartbeats 4000000 in
theorem refWrite_fits (h : RefS w base bW r F) (hz : r.M.length ≠ 0) (hm : r.M.length ≤ 22) (hM : ∀ x ∈ r.M, 0 ≤ x ∧ x ≤ (r.L.length : Int)) (a : Option Addr) (l : List Int) (c : Nat) (hr : RunesIn w a l) (hf : l.length + r.L.length ≤ 1048576) :
    Calls Try.prog 31 #[.pointer (some ⟨bW, 0, none⟩), .slice a l.length c] w fun e w' => e = .returned (.int .i64 0) ∧ UpdR F w w' base bW { r with L := r.L.take (lastR r).toNat ++ (endsM false l).1 ++ r.L.drop (lastR r).toNat, M := r.M.map fun x => x + ((endsM false l).1.length : Int) } := by
  obtain ⟨p, mv, h, e, hF⟩ := h
  obtain ⟨ga, cap, rfl, hc1, hc2, hg⟩ := row_form h.row
  obtain ⟨h0, h1, h2, h3, h4, h5⟩ := h.cells
  obtain ⟨g, rfl⟩ := hg (by omega)
  obtain ⟨v, hv⟩ : ∃ v, r.M[r.M.length - 1]? = some v := ⟨_, List.getElem?_eq_getElem (by omega)⟩
  have hvb := hM v (List.mem_of_getElem? hv)
  have hlast : lastR r = v := by unfold lastR; rw [hv]; rfl
  rw [hlast]
  have hcv := (h.cellM hv).1
  obtain ⟨KK, hat⟩ : ∃ n : Nat, (n : Int) = v := ⟨v.toNat, by omega⟩
  subst hat
  rw [show ((KK : Int)).toNat = KK by omega]
  obtain ⟨N, hN⟩ : ∃ N, r.M.length = N := ⟨_, rfl⟩
  have h' := h
  rw [hN] at h1 hm hz hcv h'
  have hz' : ((N : Int) == 0) = false := by rw [beq_eq_false_iff_ne]; omega
  have hval : p.val = .slice p.a p.xs.length p.cap := rfl
  rw [hval] at h0
  have hpl : p.xs.length = r.L.length := by rw [e]
  have hws : IntKind.i64.wrap (1048576 - (p.xs.length : Int)) = 1048576 - (p.xs.length : Int) := by rw [IntKind.wrap_i64]; omega
  have hpz : (p.xs.length : Int) ≤ 1048576 := by omega
  have hfz : ¬ (1048576 - (p.xs.length : Int)) < (l.length : Int) := by omega
  have hatp : KK ≤ p.xs.length := by omega
  have i1 : (1 : Int) ≤ (N : Int) := by omega
  have i2 : (N : Int) ≤ 22 := by omega
  have i3 : IntKind.i64.wrap ((N : Int) - 1) = (N : Int) - 1 := by rw [IntKind.wrap_i64]; omega
  have i4 : ((N : Int) - 1).toNat = N - 1 := by omega
  have i5 : (0 : Int) ≤ (N : Int) - 1 := by omega
  have i6 : (N : Int) - 1 < (N : Int) := by omega
  have hlt := h.lt
  have hltg : g < w.heap.size := (h.row.lt g rfl).2
  have hplen := h.part.len
  have hpmost := h.part.most
  unfold maxLen at hpmost
  have i7 : (KK : Int) ≤ (p.xs.length : Int) := by omega
  have i8 : (p.xs.length : Int) ≤ (p.cap : Int) := by omega
  have i9 : (KK : Int) ≤ (p.cap : Int) := by omega
  have HEN := hide (refEnds_any w a l c false hr (by omega))
  have f0 := h5 0
  have HRU := hide h.part.runes
  have HTL : Hid ((p.xs.take KK).length = KK) := hide (by rw [List.length_take]; omega)
  have HDL : Hid ((p.xs.drop KK).length = p.xs.length - KK) := hide List.length_drop
  have HSM : Hid (l.length + p.xs.length ≤ 1048576 ∧ (endsM false l).1.length ≤ l.length) := hide ⟨by omega, endsM_len false l⟩
  have H := hide h'
  have HF := hide hF
  have HE := hide e
  have HNN := hide hN
  have HM : Hid (∀ x ∈ r.M, 0 ≤ x ∧ x ≤ 1048576) := hide (fun x hx => by have := hM x hx; omega)
  have HBS : Hid (base ≤ w.heap.size) := hide (Nat.le_trans h.lo (Nat.le_of_lt h.lt))
  have fb : F bW := (hF bW).2 (.inl rfl)
  have fg : F g := (hF g).2 (.inr (.inr rfl))
  have HLS := hide h.part.lies
  clear h h' h5 hF e hg hc1 hc2 hM hN hr hf hpl hv hvb hlast hz
  by_cases hcap : p.cap = 0
  · have hx0 : p.xs.length = 0 := by omega
    have ha0 : KK = 0 := by omega
    subst ha0
    rw [hcap, hx0] at h0
    go_enter Try.func31, Try.ntmps31
    go_wp2_with (go_at_call 42; go_must (refine (unhide HEN).mono ?_); rintro e w1 ⟨⟨xa, xc, xx⟩, rfl, hx1, hx2, hx3⟩; simp only [PartM.val_mk]; have HX1 := hide hx1; have HX2 := hide hx2; have HX3 := hide hx3; have c0 : w1.cell? ⟨bW, 0, none⟩ = some (.slice p.a 0 0) := (hx3.cell (p := ⟨bW, 0, none⟩) hlt).trans h0; have c1 : w1.cell? ⟨bW, 1, none⟩ = some (.slice (some ⟨g, 0, none⟩) N cap) := (hx3.cell (p := ⟨bW, 1, none⟩) hlt).trans h1; have c2 : w1.cell? ⟨g, N - 1, none⟩ = some (.int .i64 ((0 : Nat) : Int)) := (hx3.cell (p := ⟨g, N - 1, none⟩) hltg).trans hcv; have c4 : w1.frozen? ⟨bW, 0, none⟩ = false := (hx3.frozen (p := ⟨bW, 0, none⟩) hlt).trans f0; clear hx1 hx2 hx3)
    go_quiet (fail)
    have HG0 : Hid (Grown3 w (w1.drewN nq) ⟨none, 0, []⟩ []) := hide ⟨PartAt.nil _ _ _, rfl, below_dn (unhide HX3) _⟩
    have HCB : Hid (∀ wy, Below w.heap.size w wy → wy.cell? ⟨bW, 0, none⟩ = some (.slice p.a 0 0) ∧ wy.frozen? ⟨bW, 0, none⟩ = false) := hide (fun wy hb => ⟨(hb.cell (p := ⟨bW, 0, none⟩) hlt).trans h0, (hb.frozen (p := ⟨bW, 0, none⟩) hlt).trans f0⟩)
    have HXR : Hid (∀ wy, Below w1.heap.size w1 wy → RunesIn wy xa xx) := hide (fun wy hb => (unhide HX1).runes.below hb)
    go_wp2_with (first
      | (at_builtin; have _x := unhide HG2; go_must (refine wpList_part_append_n (base := w.heap.size) (p := q2) (by rfl) _ _ (by rfl) (by rfl) p.a (p.xs.drop 0) 0 0 (by rw [List.drop_zero]; exact hx0) (by rfl) (unhide HG2).part (unhide HG2).bel.size (by rw [List.eq_nil_of_length_eq_zero hx0]; intro i y hi; simp at hi) (by have h1 := unhide HSM; have h2 := unhide HDL; have h3 := unhide HTL; rw [(unhide HG2).xs, List.length_append, unhide HX2, h2, List.nil_append, h3]; omega) ?_); rintro ⟨a3, c3', x3⟩ w4 g1 g2 g3 g4; simp only [PartM.val_mk]; have HG3 := hide ((unhide HG2).next g1 g2 g3); obtain ⟨k1, k2⟩ := (unhide HCB) w4 (unhide HG3).bel; clear g1 g2 g3 g4)
      | (at_builtin; have _x := unhide HG1; go_must (refine wpList_part_append_n (base := w.heap.size) (p := q1) (by rfl) _ _ (by rfl) (by rfl) xa xx xx.length xc rfl (by rfl) (unhide HG1).part (unhide HG1).bel.size ((unhide HXR) _ (unhide HW1)) (by have h1 := unhide HSM; have h3 := unhide HTL; rw [(unhide HG1).xs, unhide HX2, List.nil_append, h3]; omega) ?_); rintro q2 w3 g1 g2 g3 g4; have HG2 := hide ((unhide HG1).next g1 g2 g3); obtain ⟨k1, k2⟩ := (unhide HCB) w3 (unhide HG2).bel; clear g1 g2 g3 g4)
      | (at_builtin; go_must (refine wpList_part_append_n (base := w.heap.size) (p := ⟨none, 0, []⟩) (by rfl) _ _ (by rfl) (by rfl) p.a (p.xs.take 0) 0 0 (unhide HTL) (by rfl) (unhide HG0).part (unhide HG0).bel.size (((unhide HRU).take 0).below (unhide HG0).bel) (by have h1 := unhide HSM; have h3 := unhide HTL; show ([] : List Int).length + _ ≤ _; rw [h3, List.length_nil]; omega) ?_); rintro q1 w2 g1 g2 g3 g4; have HG1 := hide ((unhide HG0).next g1 g2 g3); have HW1 : Hid (Below w1.heap.size w1 w2) := hide ((below_dw w1 nq).trans ((Mod.grown (F := fun _ => False) g3 (fun k hk => by simp [PartM.own] at hk)).below (Nat.le_refl _) (fun k hk => hk.elim))); obtain ⟨k1, k2⟩ := (unhide HCB) w2 (unhide HG1).bel; clear g1 g2 g3 g4))
    have HT0 : Hid (Turning F w (w4.setCell ⟨bW, 0, none⟩ (PartM.val ⟨a3, c3', x3⟩)) base bW ⟨a3, c3', x3⟩ (.slice (some ⟨g, 0, none⟩) N cap) r.M r.cr r.over r.gone) := hide
      ⟨(unhide H).setL (Mod.of_below (unhide HG3).bel) ((unhide HG3).part.lower (unhide HBS)), (Mod.of_below (unhide HG3).bel).trans (Mod.setCell _ _ _ fb)⟩
    have HXL : Hid (xx.length ≤ 1048576) := hide (by have h1 := unhide HSM; have h2 : xx = _ := unhide HX2; rw [h2]; omega)
    have HX3' : Hid (x3 = p.xs.take 0 ++ xx ++ p.xs.drop 0) := hide (by have := (unhide HG3).xs; simpa using this)
    have HXX : Hid (xx = (endsM false l).1) := hide (unhide HX2)
    have HOW : Hid (∀ k, (PartM.own ⟨a3, c3', x3⟩) = some k → w.heap.size ≤ k) := hide (fun k hk => ((unhide HG3).part.own_lt hk).1)
    clear HEN HRU HTL HDL HSM HLS HX1 HX2 HX3 HXR HCB HG0 HG1 HG2 HG3 HW1 k1 k2
    go_loopg [9] N (fun gx s9 wx => ∃ i : Nat, s9 = .int .i64 i ∧ i + gx = N ∧ Turning F w wx base bW ⟨a3, c3', x3⟩ (.slice (some ⟨g, 0, none⟩) N cap) (updN (fun y => y + (xx.length : Int)) r.M i) r.cr r.over r.gone)
    case atStart =>
      refine ⟨0, rfl, by omega, ?_⟩
      rw [updN_zero]
      exact unhide HT0
    case round =>
      obtain ⟨i, rfl, hig, ht⟩ := hrel
      obtain ⟨d0, d1, d2, d3, d4, d5⟩ := ht.ref.cells
      have HG := hide hig
      have HT := hide ht
      by_cases hil : i < N
      · have hiz : (i : Int) < (N : Int) := by omega
        have hi0 : (0 : Int) ≤ (i : Int) := by omega
        have hw1 : IntKind.i64.wrap ((i : Int) + 1) = (i : Int) + 1 := by rw [IntKind.wrap_i64]; omega
        have hlM : i < r.M.length := by have := unhide HNN; omega
        have hat := updN_at (f := fun y => y + (xx.length : Int)) hlM
        obtain ⟨cc, cf⟩ := ht.ref.cellM hat
        have hvb := (unhide HM) r.M[i] (List.getElem_mem hlM)
        have hset := (ht.ref.below (Below.refl _ wr).drew).setAt i (r.M[i] + (xx.length : Int))
        have e2 : updN (fun y => y + (xx.length : Int)) r.M (i + 1) = (updN (fun y => y + (xx.length : Int)) r.M i).set i (r.M[i] + (xx.length : Int)) := updN_succ hlM
        rw [← e2] at hset
        generalize r.M[i] = v at cc hvb hset
        have hxl := unhide HXL
        have hwv : IntKind.i64.wrap (v + (xx.length : Int)) = v + (xx.length : Int) := by rw [IntKind.wrap_i64]; omega
        have HT2 : Hid (Turning F w (wr.drew.setCell ⟨g, i, none⟩ (.int .i64 (v + (xx.length : Int)))) base bW ⟨a3, c3', x3⟩ (.slice (some ⟨g, 0, none⟩) N cap) (updN (fun y => y + (xx.length : Int)) r.M (i + 1)) r.cr r.over r.gone) := hide ⟨hset, (ht.mod.trans (Mod.of_below (Below.refl _ wr).drew)).trans (Mod.setCell _ _ _ fg)⟩
        have HI := hide hil
        have hltg2 : g < wr.heap.size := (ht.ref.row.lt g rfl).2
        have hxz : (xx.length : Int) ≤ 1048576 := by omega
        have hv0 : 0 ≤ v := hvb.1
        have hv1 : v ≤ 1048576 := hvb.2
        clear ht hset e2 hat hlM hig hil d5 HT hvb hxl HT0
        go_wp2_with fail
        go_region
        all_goals (try go_wp2)
        all_goals (go_roundg (gk - 1))
        all_goals first
          | (have := unhide HG; have := unhide HI; omega)
          | exact ⟨i + 1, by go_num, by have := unhide HG; have := unhide HI; omega, unhide HT2⟩
      · have hiz : ¬ (i : Int) < (N : Int) := by omega
        have e1 : updN (fun y => y + (xx.length : Int)) r.M i = r.M.map fun y => y + (xx.length : Int) := by
          rw [show i = r.M.length by have := unhide HNN; omega]
          exact updN_all _ _
        rw [e1] at HT
        clear ht hig hil d5 e1 HT0
        go_wp2
        go_ret
        have hT := unhide HT
        rw [unhide HXX] at hT
        refine ⟨rfl, footR bW ⟨a3, c3', x3⟩ (.slice (some ⟨g, 0, none⟩) N cap), ⟨⟨a3, c3', x3⟩, _, hT.ref, ?_, fun _ => Iff.rfl⟩, hT.mod, ?_⟩
        · show x3 = _
          rw [unhide HX3', unhide HXX, unhide HE]
          first | done | simp
        · rintro k (rfl | hk | hk)
          · exact .inl fb
          · exact .inr ((unhide HOW) k hk)
          · simp only [Value.ownBlock, Option.some.injEq] at hk
            subst hk
            exact .inl fg
  · obtain ⟨b, off, hpa⟩ : ∃ b off, p.a = some ⟨b, off, none⟩ := by
      rcases unhide HLS with e | ⟨b, off, _, e, _⟩
      · exact absurd e hcap
      · exact ⟨b, off, e⟩
    rw [hpa] at h0 HRU
    by_cases hck : p.cap = KK
    · have hdn : p.xs.drop KK = [] := List.drop_of_length_le (by omega)
      rw [hck] at h0 i8 i9
      clear hck
      go_enter Try.func31, Try.ntmps31
      go_wp2_with (go_at_call 42; go_must (refine (unhide HEN).mono ?_); rintro e w1 ⟨⟨xa, xc, xx⟩, rfl, hx1, hx2, hx3⟩; simp only [PartM.val_mk]; have HX1 := hide hx1; have HX2 := hide hx2; have HX3 := hide hx3; have c0 : w1.cell? ⟨bW, 0, none⟩ = some (.slice (some ⟨b, off, none⟩) p.xs.length KK) := (hx3.cell (p := ⟨bW, 0, none⟩) hlt).trans h0; have c1 : w1.cell? ⟨bW, 1, none⟩ = some (.slice (some ⟨g, 0, none⟩) N cap) := (hx3.cell (p := ⟨bW, 1, none⟩) hlt).trans h1; have c2 : w1.cell? ⟨g, N - 1, none⟩ = some (.int .i64 ((KK : Nat) : Int)) := (hx3.cell (p := ⟨g, N - 1, none⟩) hltg).trans hcv; have c4 : w1.frozen? ⟨bW, 0, none⟩ = false := (hx3.frozen (p := ⟨bW, 0, none⟩) hlt).trans f0; clear hx1 hx2 hx3)
      go_quiet (fail)
      have HG0 : Hid (Grown3 w (w1.drewN nq) ⟨none, 0, []⟩ []) := hide ⟨PartAt.nil _ _ _, rfl, below_dn (unhide HX3) _⟩
      have HCB : Hid (∀ wy, Below w.heap.size w wy → wy.cell? ⟨bW, 0, none⟩ = some (.slice (some ⟨b, off, none⟩) p.xs.length KK) ∧ wy.frozen? ⟨bW, 0, none⟩ = false) := hide (fun wy hb => ⟨(hb.cell (p := ⟨bW, 0, none⟩) hlt).trans h0, (hb.frozen (p := ⟨bW, 0, none⟩) hlt).trans f0⟩)
      have HXR : Hid (∀ wy, Below w1.heap.size w1 wy → RunesIn wy xa xx) := hide (fun wy hb => (unhide HX1).runes.below hb)
      go_wp2_with (first
        | (at_builtin; have _x := unhide HG2; go_must (refine wpList_part_append_n (base := w.heap.size) (p := q2) (by rfl) _ _ (by rfl) (by rfl) (some ⟨b, off, none⟩) (p.xs.drop KK) (p.xs.length - KK) 0 (unhide HDL) (by rfl) (unhide HG2).part (unhide HG2).bel.size (by rw [hdn]; intro i y hi; simp at hi) (by have h1 := unhide HSM; have h2 := unhide HDL; have h3 := unhide HTL; rw [(unhide HG2).xs, List.length_append, unhide HX2, h2, List.nil_append, h3]; omega) ?_); rintro ⟨a3, c3', x3⟩ w4 g1 g2 g3 g4; simp only [PartM.val_mk]; have HG3 := hide ((unhide HG2).next g1 g2 g3); obtain ⟨k1, k2⟩ := (unhide HCB) w4 (unhide HG3).bel; clear g1 g2 g3 g4)
        | (at_builtin; have _x := unhide HG1; go_must (refine wpList_part_append_n (base := w.heap.size) (p := q1) (by rfl) _ _ (by rfl) (by rfl) xa xx xx.length xc rfl (by rfl) (unhide HG1).part (unhide HG1).bel.size ((unhide HXR) _ (unhide HW1)) (by have h1 := unhide HSM; have h3 := unhide HTL; rw [(unhide HG1).xs, unhide HX2, List.nil_append, h3]; omega) ?_); rintro q2 w3 g1 g2 g3 g4; have HG2 := hide ((unhide HG1).next g1 g2 g3); obtain ⟨k1, k2⟩ := (unhide HCB) w3 (unhide HG2).bel; clear g1 g2 g3 g4)
        | (at_builtin; go_must (refine wpList_part_append_n (base := w.heap.size) (p := ⟨none, 0, []⟩) (by rfl) _ _ (by rfl) (by rfl) (some ⟨b, off, none⟩) (p.xs.take KK) KK KK (unhide HTL) (by rfl) (unhide HG0).part (unhide HG0).bel.size (((unhide HRU).take KK).below (unhide HG0).bel) (by have h1 := unhide HSM; have h3 := unhide HTL; show ([] : List Int).length + _ ≤ _; rw [h3, List.length_nil]; omega) ?_); rintro q1 w2 g1 g2 g3 g4; have HG1 := hide ((unhide HG0).next g1 g2 g3); have HW1 : Hid (Below w1.heap.size w1 w2) := hide ((below_dw w1 nq).trans ((Mod.grown (F := fun _ => False) g3 (fun k hk => by simp [PartM.own] at hk)).below (Nat.le_refl _) (fun k hk => hk.elim))); obtain ⟨k1, k2⟩ := (unhide HCB) w2 (unhide HG1).bel; clear g1 g2 g3 g4))
      have HT0 : Hid (Turning F w (w4.setCell ⟨bW, 0, none⟩ (PartM.val ⟨a3, c3', x3⟩)) base bW ⟨a3, c3', x3⟩ (.slice (some ⟨g, 0, none⟩) N cap) r.M r.cr r.over r.gone) := hide
        ⟨(unhide H).setL (Mod.of_below (unhide HG3).bel) ((unhide HG3).part.lower (unhide HBS)), (Mod.of_below (unhide HG3).bel).trans (Mod.setCell _ _ _ fb)⟩
      have HXL : Hid (xx.length ≤ 1048576) := hide (by have h1 := unhide HSM; have h2 : xx = _ := unhide HX2; rw [h2]; omega)
      have HX3' : Hid (x3 = p.xs.take KK ++ xx ++ p.xs.drop KK) := hide (by have := (unhide HG3).xs; simpa using this)
      have HXX : Hid (xx = (endsM false l).1) := hide (unhide HX2)
      have HOW : Hid (∀ k, (PartM.own ⟨a3, c3', x3⟩) = some k → w.heap.size ≤ k) := hide (fun k hk => ((unhide HG3).part.own_lt hk).1)
      clear HEN HRU HTL HDL HSM HLS HX1 HX2 HX3 HXR HCB HG0 HG1 HG2 HG3 HW1 k1 k2
      go_loopg [9] N (fun gx s9 wx => ∃ i : Nat, s9 = .int .i64 i ∧ i + gx = N ∧ Turning F w wx base bW ⟨a3, c3', x3⟩ (.slice (some ⟨g, 0, none⟩) N cap) (updN (fun y => y + (xx.length : Int)) r.M i) r.cr r.over r.gone)
      case atStart =>
        refine ⟨0, rfl, by omega, ?_⟩
        rw [updN_zero]
        exact unhide HT0
      case round =>
        obtain ⟨i, rfl, hig, ht⟩ := hrel
        obtain ⟨d0, d1, d2, d3, d4, d5⟩ := ht.ref.cells
        have HG := hide hig
        have HT := hide ht
        by_cases hil : i < N
        · have hiz : (i : Int) < (N : Int) := by omega
          have hi0 : (0 : Int) ≤ (i : Int) := by omega
          have hw1 : IntKind.i64.wrap ((i : Int) + 1) = (i : Int) + 1 := by rw [IntKind.wrap_i64]; omega
          have hlM : i < r.M.length := by have := unhide HNN; omega
          have hat := updN_at (f := fun y => y + (xx.length : Int)) hlM
          obtain ⟨cc, cf⟩ := ht.ref.cellM hat
          have hvb := (unhide HM) r.M[i] (List.getElem_mem hlM)
          have hset := (ht.ref.below (Below.refl _ wr).drew).setAt i (r.M[i] + (xx.length : Int))
          have e2 : updN (fun y => y + (xx.length : Int)) r.M (i + 1) = (updN (fun y => y + (xx.length : Int)) r.M i).set i (r.M[i] + (xx.length : Int)) := updN_succ hlM
          rw [← e2] at hset
          generalize r.M[i] = v at cc hvb hset
          have hxl := unhide HXL
          have hwv : IntKind.i64.wrap (v + (xx.length : Int)) = v + (xx.length : Int) := by rw [IntKind.wrap_i64]; omega
          have HT2 : Hid (Turning F w (wr.drew.setCell ⟨g, i, none⟩ (.int .i64 (v + (xx.length : Int)))) base bW ⟨a3, c3', x3⟩ (.slice (some ⟨g, 0, none⟩) N cap) (updN (fun y => y + (xx.length : Int)) r.M (i + 1)) r.cr r.over r.gone) := hide ⟨hset, (ht.mod.trans (Mod.of_below (Below.refl _ wr).drew)).trans (Mod.setCell _ _ _ fg)⟩
          have HI := hide hil
          have hltg2 : g < wr.heap.size := (ht.ref.row.lt g rfl).2
          have hxz : (xx.length : Int) ≤ 1048576 := by omega
          have hv0 : 0 ≤ v := hvb.1
          have hv1 : v ≤ 1048576 := hvb.2
          clear ht hset e2 hat hlM hig hil d5 HT hvb hxl HT0
          go_wp2_with fail
          go_region
          all_goals (try go_wp2)
          all_goals (go_roundg (gk - 1))
          all_goals first
            | (have := unhide HG; have := unhide HI; omega)
            | exact ⟨i + 1, by go_num, by have := unhide HG; have := unhide HI; omega, unhide HT2⟩
        · have hiz : ¬ (i : Int) < (N : Int) := by omega
          have e1 : updN (fun y => y + (xx.length : Int)) r.M i = r.M.map fun y => y + (xx.length : Int) := by
            rw [show i = r.M.length by have := unhide HNN; omega]
            exact updN_all _ _
          rw [e1] at HT
          clear ht hig hil d5 e1 HT0
          go_wp2
          go_ret
          have hT := unhide HT
          rw [unhide HXX] at hT
          refine ⟨rfl, footR bW ⟨a3, c3', x3⟩ (.slice (some ⟨g, 0, none⟩) N cap), ⟨⟨a3, c3', x3⟩, _, hT.ref, ?_, fun _ => Iff.rfl⟩, hT.mod, ?_⟩
          · show x3 = _
            rw [unhide HX3', unhide HXX, unhide HE]
            first | done | simp
          · rintro k (rfl | hk | hk)
            · exact .inl fb
            · exact .inr ((unhide HOW) k hk)
            · simp only [Value.ownBlock, Option.some.injEq] at hk
              subst hk
              exact .inl fg
    · have hck2 : ¬ p.cap - KK = 0 := by omega
      have hck3 : ¬ p.cap = KK := hck
      go_enter Try.func31, Try.ntmps31
      go_wp2_with (go_at_call 42; go_must (refine (unhide HEN).mono ?_); rintro e w1 ⟨⟨xa, xc, xx⟩, rfl, hx1, hx2, hx3⟩; simp only [PartM.val_mk]; have HX1 := hide hx1; have HX2 := hide hx2; have HX3 := hide hx3; have c0 : w1.cell? ⟨bW, 0, none⟩ = some (.slice (some ⟨b, off, none⟩) p.xs.length p.cap) := (hx3.cell (p := ⟨bW, 0, none⟩) hlt).trans h0; have c1 : w1.cell? ⟨bW, 1, none⟩ = some (.slice (some ⟨g, 0, none⟩) N cap) := (hx3.cell (p := ⟨bW, 1, none⟩) hlt).trans h1; have c2 : w1.cell? ⟨g, N - 1, none⟩ = some (.int .i64 ((KK : Nat) : Int)) := (hx3.cell (p := ⟨g, N - 1, none⟩) hltg).trans hcv; have c4 : w1.frozen? ⟨bW, 0, none⟩ = false := (hx3.frozen (p := ⟨bW, 0, none⟩) hlt).trans f0; clear hx1 hx2 hx3)
      go_quiet (fail)
      have HG0 : Hid (Grown3 w (w1.drewN nq) ⟨none, 0, []⟩ []) := hide ⟨PartAt.nil _ _ _, rfl, below_dn (unhide HX3) _⟩
      have HCB : Hid (∀ wy, Below w.heap.size w wy → wy.cell? ⟨bW, 0, none⟩ = some (.slice (some ⟨b, off, none⟩) p.xs.length p.cap) ∧ wy.frozen? ⟨bW, 0, none⟩ = false) := hide (fun wy hb => ⟨(hb.cell (p := ⟨bW, 0, none⟩) hlt).trans h0, (hb.frozen (p := ⟨bW, 0, none⟩) hlt).trans f0⟩)
      have HXR : Hid (∀ wy, Below w1.heap.size w1 wy → RunesIn wy xa xx) := hide (fun wy hb => (unhide HX1).runes.below hb)
      go_wp2_with (first
        | (at_builtin; have _x := unhide HG2; go_must (refine wpList_part_append_n (base := w.heap.size) (p := q2) (by rfl) _ _ (by rfl) (by rfl) (some ⟨b, off + KK, none⟩) (p.xs.drop KK) (p.xs.length - KK) (p.cap - KK) (unhide HDL) (by rfl) (unhide HG2).part (unhide HG2).bel.size (((unhide HRU).drop KK).below (unhide HG2).bel) (by have h1 := unhide HSM; have h2 := unhide HDL; have h3 := unhide HTL; rw [(unhide HG2).xs, List.length_append, unhide HX2, h2, List.nil_append, h3]; omega) ?_); rintro ⟨a3, c3', x3⟩ w4 g1 g2 g3 g4; simp only [PartM.val_mk]; have HG3 := hide ((unhide HG2).next g1 g2 g3); obtain ⟨k1, k2⟩ := (unhide HCB) w4 (unhide HG3).bel; clear g1 g2 g3 g4)
        | (at_builtin; have _x := unhide HG1; go_must (refine wpList_part_append_n (base := w.heap.size) (p := q1) (by rfl) _ _ (by rfl) (by rfl) xa xx xx.length xc rfl (by rfl) (unhide HG1).part (unhide HG1).bel.size ((unhide HXR) _ (unhide HW1)) (by have h1 := unhide HSM; have h3 := unhide HTL; rw [(unhide HG1).xs, unhide HX2, List.nil_append, h3]; omega) ?_); rintro q2 w3 g1 g2 g3 g4; have HG2 := hide ((unhide HG1).next g1 g2 g3); obtain ⟨k1, k2⟩ := (unhide HCB) w3 (unhide HG2).bel; clear g1 g2 g3 g4)
        | (at_builtin; go_must (refine wpList_part_append_n (base := w.heap.size) (p := ⟨none, 0, []⟩) (by rfl) _ _ (by rfl) (by rfl) (some ⟨b, off, none⟩) (p.xs.take KK) KK p.cap (unhide HTL) (by rfl) (unhide HG0).part (unhide HG0).bel.size (((unhide HRU).take KK).below (unhide HG0).bel) (by have h1 := unhide HSM; have h3 := unhide HTL; show ([] : List Int).length + _ ≤ _; rw [h3, List.length_nil]; omega) ?_); rintro q1 w2 g1 g2 g3 g4; have HG1 := hide ((unhide HG0).next g1 g2 g3); have HW1 : Hid (Below w1.heap.size w1 w2) := hide ((below_dw w1 nq).trans ((Mod.grown (F := fun _ => False) g3 (fun k hk => by simp [PartM.own] at hk)).below (Nat.le_refl _) (fun k hk => hk.elim))); obtain ⟨k1, k2⟩ := (unhide HCB) w2 (unhide HG1).bel; clear g1 g2 g3 g4))
      have HT0 : Hid (Turning F w (w4.setCell ⟨bW, 0, none⟩ (PartM.val ⟨a3, c3', x3⟩)) base bW ⟨a3, c3', x3⟩ (.slice (some ⟨g, 0, none⟩) N cap) r.M r.cr r.over r.gone) := hide
        ⟨(unhide H).setL (Mod.of_below (unhide HG3).bel) ((unhide HG3).part.lower (unhide HBS)), (Mod.of_below (unhide HG3).bel).trans (Mod.setCell _ _ _ fb)⟩
      have HXL : Hid (xx.length ≤ 1048576) := hide (by have h1 := unhide HSM; have h2 : xx = _ := unhide HX2; rw [h2]; omega)
      have HX3' : Hid (x3 = p.xs.take KK ++ xx ++ p.xs.drop KK) := hide (by have := (unhide HG3).xs; simpa using this)
      have HXX : Hid (xx = (endsM false l).1) := hide (unhide HX2)
      have HOW : Hid (∀ k, (PartM.own ⟨a3, c3', x3⟩) = some k → w.heap.size ≤ k) := hide (fun k hk => ((unhide HG3).part.own_lt hk).1)
      clear HEN HRU HTL HDL HSM HLS HX1 HX2 HX3 HXR HCB HG0 HG1 HG2 HG3 HW1 k1 k2
      go_loopg [9] N (fun gx s9 wx => ∃ i : Nat, s9 = .int .i64 i ∧ i + gx = N ∧ Turning F w wx base bW ⟨a3, c3', x3⟩ (.slice (some ⟨g, 0, none⟩) N cap) (updN (fun y => y + (xx.length : Int)) r.M i) r.cr r.over r.gone)
      case atStart =>
        refine ⟨0, rfl, by omega, ?_⟩
        rw [updN_zero]
        exact unhide HT0
      case round =>
        obtain ⟨i, rfl, hig, ht⟩ := hrel
        obtain ⟨d0, d1, d2, d3, d4, d5⟩ := ht.ref.cells
        have HG := hide hig
        have HT := hide ht
        by_cases hil : i < N
        · have hiz : (i : Int) < (N : Int) := by omega
          have hi0 : (0 : Int) ≤ (i : Int) := by omega
          have hw1 : IntKind.i64.wrap ((i : Int) + 1) = (i : Int) + 1 := by rw [IntKind.wrap_i64]; omega
          have hlM : i < r.M.length := by have := unhide HNN; omega
          have hat := updN_at (f := fun y => y + (xx.length : Int)) hlM
          obtain ⟨cc, cf⟩ := ht.ref.cellM hat
          have hvb := (unhide HM) r.M[i] (List.getElem_mem hlM)
          have hset := (ht.ref.below (Below.refl _ wr).drew).setAt i (r.M[i] + (xx.length : Int))
          have e2 : updN (fun y => y + (xx.length : Int)) r.M (i + 1) = (updN (fun y => y + (xx.length : Int)) r.M i).set i (r.M[i] + (xx.length : Int)) := updN_succ hlM
          rw [← e2] at hset
          generalize r.M[i] = v at cc hvb hset
          have hxl := unhide HXL
          have hwv : IntKind.i64.wrap (v + (xx.length : Int)) = v + (xx.length : Int) := by rw [IntKind.wrap_i64]; omega
          have HT2 : Hid (Turning F w (wr.drew.setCell ⟨g, i, none⟩ (.int .i64 (v + (xx.length : Int)))) base bW ⟨a3, c3', x3⟩ (.slice (some ⟨g, 0, none⟩) N cap) (updN (fun y => y + (xx.length : Int)) r.M (i + 1)) r.cr r.over r.gone) := hide ⟨hset, (ht.mod.trans (Mod.of_below (Below.refl _ wr).drew)).trans (Mod.setCell _ _ _ fg)⟩
          have HI := hide hil
          have hltg2 : g < wr.heap.size := (ht.ref.row.lt g rfl).2
          have hxz : (xx.length : Int) ≤ 1048576 := by omega
          have hv0 : 0 ≤ v := hvb.1
          have hv1 : v ≤ 1048576 := hvb.2
          clear ht hset e2 hat hlM hig hil d5 HT hvb hxl HT0
          go_wp2_with fail
          go_region
          all_goals (try go_wp2)
          all_goals (go_roundg (gk - 1))
          all_goals first
            | (have := unhide HG; have := unhide HI; omega)
            | exact ⟨i + 1, by go_num, by have := unhide HG; have := unhide HI; omega, unhide HT2⟩
        · have hiz : ¬ (i : Int) < (N : Int) := by omega
          have e1 : updN (fun y => y + (xx.length : Int)) r.M i = r.M.map fun y => y + (xx.length : Int) := by
            rw [show i = r.M.length by have := unhide HNN; omega]
            exact updN_all _ _
          rw [e1] at HT
          clear ht hig hil d5 e1 HT0
          go_wp2
          go_ret
          have hT := unhide HT
          rw [unhide HXX] at hT
          refine ⟨rfl, footR bW ⟨a3, c3', x3⟩ (.slice (some ⟨g, 0, none⟩) N cap), ⟨⟨a3, c3', x3⟩, _, hT.ref, ?_, fun _ => Iff.rfl⟩, hT.mod, ?_⟩
          · show x3 = _
            rw [unhide HX3', unhide HXX, unhide HE]
            first | done | simp
          · rintro k (rfl | hk | hk)
            · exact .inl fb
            · exact .inr ((unhide HOW) k hk)
            · simp only [Value.ownBlock, Option.some.injEq] at hk
              subst hk
              exact .inl fg
end
end Go.Proofs.Ytlhebbhpcepfhaa
