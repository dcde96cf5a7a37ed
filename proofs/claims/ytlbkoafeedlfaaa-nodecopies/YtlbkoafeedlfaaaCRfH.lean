/-
  The document's own arena: an attribute is set, told by plain nodes.
-/
import Derived.Test.YtlbkoafeedlfaaaCRfG
namespace Go.Proofs.Ytlbkoafeedlfaaa
open Go.RowKit

section
variable {w w' : World} {base bR : Nat} {os : List OneM} {G : Nat → Prop}

set_option maxHeartbeats 2000000 in
theorem refSetAttr_err {g cap : Nat} {rs : List OneR} (h : Rf w base bR g cap rs) (i : Nat) (r : OneR) (hi : rs[i]? = some r) (x : AttrM) :
    (r.o.kind ≠ 1 → Calls Try.prog 44 #[.pointer (some ⟨bR, 0, none⟩), .int .i64 i, x.agg] w fun e w' => e = .returned (.int .i64 10) ∧ Below w.heap.size w w') ∧
    (r.o.kind = 1 → x.long = true → Calls Try.prog 44 #[.pointer (some ⟨bR, 0, none⟩), .int .i64 i, x.agg] w fun e w' => e = .returned (.int .i64 2) ∧ Below w.heap.size w w') ∧
    (r.o.kind = 1 → x.long = false → idxM (sameKey x.space x.name) r.o.attrs = -1 → ¬ r.o.attrs.length < 1024 → Calls Try.prog 44 #[.pointer (some ⟨bR, 0, none⟩), .int .i64 i, x.agg] w fun e w' => e = .returned (.int .i64 2) ∧ Below w.heap.size w w') := by
  have hlt : i < rs.length := (List.getElem?_eq_some_iff.1 hi).1
  have HI := hide (fun w' hb => refIs_any (h.below hb) i (w := w'))
  have q1 : hasO (osOf rs) i = true := hasO_of (osOf_get hi)
  rw [q1] at HI
  have hA := h.cR
  have hlR := h.lt.1
  have hlg := h.lt.2
  have hn := h.most
  have c0 := (h.cells10 hi).1
  have hb1 : Below w.heap.size w (w.alloc (xObj x)) := (Below.refl w.heap.size w).alloc (Nat.le_refl _) _
  have hb2 : Below w.heap.size w ((w.alloc (xObj x)).alloc (xStr x)) := hb1.alloc (by simp) _
  have HL := hide (refLong_any ((w.alloc (xObj x)).alloc (xStr x)) (w.heap.size + 1) 3 [x.pre, x.name, x.val] (by have := threeS (w.alloc (xObj x)) 9 x.pre x.name x.val; rw [World.size_alloc] at this; exact this) (by simp))
  have HF := hide (refFind_any (h.below hb2) i r hi x.space x.name)
  have HB1 := hide hb1
  have HB2 := hide hb2
  have HH := hide h
  have HIR := hide hi
  unfold AttrM.agg
  obtain ⟨a, cp, hav, hin, hal⟩ := h.attrs i r hi
  have HAV := hide hav
  generalize hl : r.o.attrs = l at *
  have e0 : [x.pre, x.name, x.val].any longS = x.long := rfl
  rw [e0] at HL
  unfold xObj xStr at HL HF HB2
  unfold xObj at HB1
  clear h hi q1 hb1 hb2 hin hav e0
  refine ⟨fun hk => ?_, fun hk hx => ?_, fun hk hx hj hmany => ?_⟩
  · have f1 : (r.o.kind != 1) = true := by simp [hk]
    clear hk
    go_enter Try.func44, Try.ntmps44
    go_wp2_with (go_at_call 79; refine ((unhide HI) _ (unhide HB1)).mono ?_; rintro e w' ⟨rfl, rfl⟩)
    go_ret
    exact ⟨rfl, unhide HB1⟩
  · rw [hk] at c0
    rw [hx] at HL
    clear hk hx
    go_enter Try.func44, Try.ntmps44
    set_option maxRecDepth 10000 in
    go_wp2_with (first
      | (go_at_call 79; refine ((unhide HI) _ (unhide HB1)).mono ?_; rintro e w' ⟨rfl, rfl⟩)
      | (go_at_call 95; refine (unhide HL).mono ?_; rintro e w' ⟨rfl, rfl⟩))
    go_ret
    exact ⟨rfl, unhide HB2⟩
  · rw [hk] at c0
    rw [hx] at HL
    rw [hj] at HF
    have hm : (1024 : Int) ≤ (l.length : Int) := by omega
    clear hk hx hj
    go_enter Try.func44, Try.ntmps44
    set_option maxRecDepth 10000 in
    go_wp2_with (first
      | (go_at_call 79; refine ((unhide HI) _ (unhide HB1)).mono ?_; rintro e w' ⟨rfl, rfl⟩)
      | (go_at_call 95; refine (unhide HL).mono ?_; rintro e w' ⟨rfl, rfl⟩)
      | (go_at_call 99; refine (unhide HF).mono ?_; rintro e w3 ⟨rfl, hb3⟩; have hb03 := (unhide HB2).trans (hb3.mono (unhide HB2).size); have HB03 := hide hb03; have har3 := (unhide HH).below hb03; have hA3 := har3.cR; have c33 := (har3.cells10 (unhide HIR)).2.2.2.1; rw [unhide HAV] at c33; clear hb3 hb03 har3))
    go_ret
    exact ⟨rfl, unhide HB03⟩

theorem refSetAttr_sim (hS : RfS w base bR os G) (k : Int) (x : AttrM) :
    Calls Try.prog 44 #[.pointer (some ⟨bR, 0, none⟩), .int .i64 k, x.agg] w fun e w' => e = .returned (.int .i64 (setAttrE os k x)) ∧ URf G w w' base bR (setAttrR os k x) := by
  have hS0 := hS
  obtain ⟨g, cap, rs, h, rfl, hG⟩ := hS
  cases hh : hasO (osOf rs) k with
  | false =>
    have e6 : setAttrE (osOf rs) k x = 6 := by rw [setAttrE, if_pos hh]
    have er : setAttrR (osOf rs) k x = osOf rs := by rw [setAttrR, e6, if_neg (by decide)]
    rw [e6, er]
    exact (refSetAttr_none h k x hh).mono fun e w' ⟨h1, h2⟩ => ⟨h1, hS0.upd h2⟩
  | true =>
    obtain ⟨i, o, rfl, ho⟩ := hasO_yes hh
    have hlt : i < rs.length := by rw [← osOf_len]; exact (List.getElem?_eq_some_iff.1 ho).1
    obtain ⟨r, hi⟩ : ∃ r, rs[i]? = some r := ⟨_, List.getElem?_eq_getElem hlt⟩
    have hro := osOf_get hi
    rw [ho] at hro
    cases hro
    obtain ⟨t1, t2, t3⟩ := refSetAttr_err h i r hi x
    have hat : attrsO (osOf rs) (i : Int) = r.o.attrs := by simp [attrsO, ho]
    have hE : setAttrE (osOf rs) i x = if r.o.kind ≠ 1 then 10 else if x.long then 2 else if idxM (sameKey x.space x.name) r.o.attrs = -1 ∧ ¬ r.o.attrs.length < 1024 then 2 else 0 := by
      rw [setAttrE, if_neg (by rw [hh]; decide), kindO_of ho, hat]
    by_cases hk : r.o.kind ≠ 1
    · rw [if_pos hk] at hE
      have er : setAttrR (osOf rs) i x = osOf rs := by rw [setAttrR, hE, if_neg (by decide)]
      rw [hE, er]
      exact (t1 hk).mono fun e w' ⟨h1, h2⟩ => ⟨h1, hS0.upd h2⟩
    · rw [if_neg hk] at hE
      have hk' : r.o.kind = 1 := by omega
      cases hx : x.long with
      | true =>
        rw [hx, if_pos rfl] at hE
        have er : setAttrR (osOf rs) i x = osOf rs := by rw [setAttrR, hE, if_neg (by decide)]
        rw [hE, er]
        exact (t2 hk' hx).mono fun e w' ⟨h1, h2⟩ => ⟨h1, hS0.upd h2⟩
      | false =>
        rw [hx, if_neg (by decide)] at hE
        by_cases hroom : idxM (sameKey x.space x.name) r.o.attrs = -1 ∧ ¬ r.o.attrs.length < 1024
        · rw [if_pos hroom] at hE
          have er : setAttrR (osOf rs) i x = osOf rs := by rw [setAttrR, hE, if_neg (by decide)]
          rw [hE, er]
          exact (t3 hk' hx hroom.1 hroom.2).mono fun e w' ⟨h1, h2⟩ => ⟨h1, hS0.upd h2⟩
        · rw [if_neg hroom] at hE
          have er : setAttrR (osOf rs) i x = (osOf rs).modify i fun o => { o with attrs := setL o.attrs x } := by rw [setAttrR, hE, if_pos rfl, Int.toNat_natCast]
          rw [hE, er]
          refine (refSetAttr_in h i r hi x hk' hx hroom).mono fun e w' ⟨h1, av, h2, h3, h4⟩ => ⟨h1, ?_⟩
          have := urf_set hG hi h2 h3 (fun k e => by
            rcases e with e | e
            · exact .inr (h4 k e)
            · exact .inl (.inr e))
          rw [osOf_set rs i _ (fun o => { o with attrs := setL o.attrs x }) hi rfl] at this
          exact this
end
end Go.Proofs.Ytlbkoafeedlfaaa
