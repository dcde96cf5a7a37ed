/-
  The document's own arena: an attribute is taken away.
-/
import Derived.Test.YtlbkoafeedlfaaaSBav
namespace Go.Proofs.Ytlbkoafeedlfaaa
open Go.RowKit

section
variable {w w' : World} {base bR : Nat} {os : List OneM} {G : Nat → Prop}

theorem AttrsIn.take {w : World} {a : Option Addr} {l : List AttrM} (h : AttrsIn w a l) (j : Nat) : AttrsIn w a (l.take j) := ⟨fun i x hi => h.cells i x (by rw [List.getElem?_take] at hi; split at hi; exact hi; cases hi)⟩
theorem AttrsIn.drop {w : World} {b off : Nat} {l : List AttrM} (h : AttrsIn w (some ⟨b, off, none⟩) l) (j : Nat) : AttrsIn w (some ⟨b, off + j * 4, none⟩) (l.drop j) := ⟨fun i x hi => by
  rw [List.getElem?_drop] at hi
  obtain ⟨b', off', e, c0, c1, c2, c3⟩ := h.cells (j + i) x hi
  simp only [Option.some.injEq, Addr.mk.injEq, and_true] at e
  obtain ⟨rfl, rfl⟩ := e
  have e4 : off + (j + i) * 4 = off + j * 4 + i * 4 := by omega
  rw [e4] at c0 c1 c2 c3
  exact ⟨b, off + j * 4, rfl, c0, c1, c2, c3⟩⟩

set_option maxHeartbeats 2000000 in
theorem refDelAttr_err {g cap : Nat} {rs : List OneR} (h : Rf w base bR g cap rs) (k space : Int) (name : ByteArray) :
    (hasO (osOf rs) k = false → Calls Try.prog 46 #[.pointer (some ⟨bR, 0, none⟩), .int .i64 k, .int .i64 space, .string name] w fun e w' => e = .returned (.int .i64 6) ∧ Below w.heap.size w w') ∧
    (∀ (i : Nat) r, k = (i : Int) → rs[i]? = some r → r.o.kind ≠ 1 → Calls Try.prog 46 #[.pointer (some ⟨bR, 0, none⟩), .int .i64 k, .int .i64 space, .string name] w fun e w' => e = .returned (.int .i64 10) ∧ Below w.heap.size w w') ∧
    (∀ (i : Nat) r, k = (i : Int) → rs[i]? = some r → r.o.kind = 1 → idxM (sameKey space name) r.o.attrs = -1 → Calls Try.prog 46 #[.pointer (some ⟨bR, 0, none⟩), .int .i64 k, .int .i64 space, .string name] w fun e w' => e = .returned (.int .i64 1) ∧ Below w.heap.size w w') := by
  have HI := hide (refIs_any h k)
  refine ⟨fun hk => ?_, fun i r e hi hk => ?_, fun i r e hi hk hj => ?_⟩
  · rw [hk] at HI
    clear h hk
    go_enter Try.func46, Try.ntmps46
    go_wp2_with (go_at_call 79; refine (unhide HI).mono ?_; rintro e w' ⟨rfl, rfl⟩)
    go_ret
    exact ⟨rfl, Below.refl _ _⟩
  · subst e
    have hlt : i < rs.length := (List.getElem?_eq_some_iff.1 hi).1
    have q1 : hasO (osOf rs) i = true := hasO_of (osOf_get hi)
    rw [q1] at HI
    have hA := h.cR
    have hn := h.most
    have c0 := (h.cells10 hi).1
    have f1 : (r.o.kind != 1) = true := by simp [hk]
    clear h hi hk q1
    go_enter Try.func46, Try.ntmps46
    go_wp2_with (go_at_call 79; refine (unhide HI).mono ?_; rintro e w' ⟨rfl, rfl⟩)
    go_ret
    exact ⟨rfl, Below.refl _ _⟩
  · subst e
    have hlt : i < rs.length := (List.getElem?_eq_some_iff.1 hi).1
    have q1 : hasO (osOf rs) i = true := hasO_of (osOf_get hi)
    rw [q1] at HI
    have hA := h.cR
    have hn := h.most
    have c0 := (h.cells10 hi).1
    rw [hk] at c0
    have HF := hide (refFind_any h i r hi space name)
    rw [hj] at HF
    clear h hi hk q1 hj
    go_enter Try.func46, Try.ntmps46
    go_wp2_with (first
      | (go_at_call 79; refine (unhide HI).mono ?_; rintro e w' ⟨rfl, rfl⟩)
      | (go_at_call 99; refine (unhide HF).mono ?_; rintro e w3 ⟨rfl, hb3⟩))
    go_ret
    exact ⟨rfl, hb3⟩

theorem cap_of {w : World} {base : Nat} {e : TypeId} {size g n m cap : Nat} {xs : List Value} (h : w.ownsRow base e size (.slice (some ⟨g, 0, none⟩) m cap) n xs) : n ≤ cap := by
  rcases h.2 with ⟨h', _⟩ | ⟨g', cap', cur, h', _, _, hc, _⟩
  · simp at h'
  · simp only [Value.slice.injEq, Option.some.injEq, Addr.mk.injEq, and_true] at h'
    omega

theorem erase_cut (l : List AttrM) (j : Nat) : l.eraseIdx j = l.take j ++ l.drop (j + 1) := List.eraseIdx_eq_take_drop_succ l j

theorem first_take {w w3 w4 : World} {l : List AttrM} {g4 c4 : Nat} (hb : Below w.heap.size w w3) (n : Nat) (hn : n = l.length)
    (hown : w4.ownsRow w.heap.size 29 4 (.slice (some ⟨g4, 0, none⟩) (0 + n) c4) (0 + n) ([] ++ attrRow l)) (hgrow : (w3.alloc (.cells #[] 29)).grownBy w4 (Value.slice (some ⟨w3.heap.size, 0, none⟩) 0 0).ownBlock) :
    AccA w w4 (.slice (some ⟨g4, 0, none⟩) n c4) l := by
  subst hn
  simp only [Nat.zero_add, List.nil_append] at hown
  exact ⟨hown, (hb.alloc hb.size _).grown hgrow (by have := hb.size; simp; omega) (fun k hk => by simp [Value.ownBlock] at hk; have := hb.size; omega)⟩

set_option maxHeartbeats 4000000 in
theorem refDelAttr_in {g cap : Nat} {rs : List OneR} (h : Rf w base bR g cap rs) (i : Nat) (r : OneR) (hi : rs[i]? = some r) (space : Int) (name : ByteArray) (hk : r.o.kind = 1) (j : Nat) (hj : idxM (sameKey space name) r.o.attrs = j) :
    Calls Try.prog 46 #[.pointer (some ⟨bR, 0, none⟩), .int .i64 i, .int .i64 space, .string name] w fun e w' => e = .returned (.int .i64 0) ∧
      ∃ av, Rf w' base bR g cap (rs.set i { r with o := { r.o with attrs := r.o.attrs.eraseIdx j }, av := av }) ∧ Mod (fun k => k = g) w w' ∧ (∀ k, blk av = some k → w.heap.size ≤ k) := by
  have hlt : i < rs.length := (List.getElem?_eq_some_iff.1 hi).1
  have HI := hide (refIs_any h i)
  have q1 : hasO (osOf rs) i = true := hasO_of (osOf_get hi)
  rw [q1] at HI
  have hA := h.cR
  have hlR := h.lt.1
  have hlg := h.lt.2
  have hn := h.most
  have c0 := (h.cells10 hi).1
  rw [hk] at c0
  have HF := hide (refFind_any h i r hi space name)
  rw [hj] at HF
  have HH := hide h
  have HIR := hide hi
  obtain ⟨a, cp, hav, hin, hal⟩ := h.attrs i r hi
  have HAV := hide hav
  obtain ⟨i0, hi0, hz0, hz1, hz2⟩ := info_parts Try.info29
  have hjl : j < r.o.attrs.length := by
    unfold idxM at hj
    split at hj
    · rename_i q hq
      have : q = j := by omega
      subst this
      obtain ⟨hlt, _⟩ := List.findIdx?_eq_some_iff_getElem.1 hq
      exact hlt
    · omega
  generalize hl : r.o.attrs = l at *
  obtain ⟨b, off, rfl⟩ := Addr.of_lt hin (by omega)
  have HIN := hide hin
  have hcp : l.length ≤ cp := hal.2
  have hj0 : ¬ ((j : Int) < 0) := by omega
  have HER := hide (erase_cut l j)
  have hwrap : IntKind.i64.wrap ((j : Int) + 1) = (j : Int) + 1 := by simp [IntKind.wrap, IntKind.bits, IntKind.signed]; omega
  have hjb1 : (0 : Int) ≤ (j : Int) + 1 := by omega
  have hjb2 : (j : Int) + 1 ≤ (l.length : Int) := by omega
  clear h hi hk q1 hin hav hj
  by_cases hj1 : 0 < j
  · by_cases hjn : j + 1 < l.length
    · have hcj : ¬ cp = j + 1 := by omega
      go_enter Try.func46, Try.ntmps46
      set_option maxRecDepth 10000 in
      go_wp2_with (first
        | (go_at_call 79; refine (unhide HI).mono ?_; rintro e w' ⟨rfl, rfl⟩)
        | (go_at_call 99; refine (unhide HF).mono ?_; rintro e w3 ⟨rfl, hb3⟩; have HB3 := hide hb3; have har3 := (unhide HH).below hb3; have hA3 := har3.cR; have fg3 := har3.fg; have nR3 := har3.neRg; have lR3 : bR < w3.heap.size := har3.lt.1; have lg3 : g < w3.heap.size := har3.lt.2; have c33 := (har3.cells10 (unhide HIR)).2.2.2.1; rw [unhide HAV] at c33; have hs3 := hb3.size; have HIN3 := hide ((unhide HIN).below hb3); clear hb3 har3)
        | (at_builtin; refine wpList_append_lies _ (by rfl) _ _ 30 (by rfl) w.heap.size 29 i0 _ 4 56 Try.underlying30 hi0 hz0 hz1 hz2 rfl (by omega) (.slice (some ⟨w3.heap.size, 0, none⟩) 0 0) 0 [] (by rfl) (empty_row w3 29 4 w.heap.size hs3) ⟨b, off, none⟩ j cp (attrRow (l.take j)) (by rfl) (by rw [show (attrRow (l.take j)).length = (l.take j).length * 4 from flat_len AttrM.cells 4 attr_len _, List.length_take]; omega) ((((unhide HIN3).take j).below ((Below.refl _ w3).alloc (Nat.le_refl _) _)).row) (attrs_oneCell _) hj1 (by unfold maxLen; omega) (by omega) (by simp; omega) _ rfl ?_; intro g4 c4 w4 hown4 hgrow4 hat4 hlt4; have HC4 := hide (first_take (unhide HB3) j (by rw [List.length_take]; omega) hown4 hgrow4); have hc4 : j ≤ c4 := (by have := cap_of (unhide HC4).own; rw [List.length_take] at this; omega); have har4 := (unhide HH).below (unhide HC4).below; have hA4 := har4.cR; have lR4 : bR < w4.heap.size := har4.lt.1; have lg4 : g < w4.heap.size := har4.lt.2; have fg4 := har4.fg; have nR4 := har4.neRg; have c34 := (har4.cells10 (unhide HIR)).2.2.2.1; rw [unhide HAV] at c34; have HIN4 := hide ((unhide HIN).below (unhide HC4).below); clear har4; clear hown4 hgrow4 hat4))
      set_option maxRecDepth 10000 in
      go_region_law ((refine step_append_lies _ (by rfl) _ _ _ (by rfl) w.heap.size 29 i0 _ 4 56 Try.underlying30 hi0 hz0 hz1 hz2 rfl (by omega) (.slice (some ⟨g4, 0, none⟩) j c4) j (attrRow (l.take j)) (by rfl) (by have := (unhide HC4).own.drew; rw [List.length_take, Nat.min_eq_left (by omega)] at this; exact this) ⟨b, off + (j + 1) * 4, none⟩ (l.length - (j + 1)) (cp - (j + 1)) (attrRow (l.drop (j + 1))) (by rfl) (by rw [show (attrRow (l.drop (j + 1))).length = (l.drop (j + 1)).length * 4 from flat_len AttrM.cells 4 attr_len _, List.length_drop]) (((unhide HIN4).drop (j + 1)).row) (attrs_oneCell _) (by omega) (by unfold maxLen; omega) (by omega) (unhide HC4).below.size _ rfl ?_; intro g5 c5 w5 hown5 hgrow5 hat5 hlt5; have HC5 : Hid (AccA w w5 (.slice (some ⟨g5, 0, none⟩) (j + (l.length - (j + 1))) c5) (l.take j ++ l.drop (j + 1))) := (by have := (unhide HC4).step (ys := l.drop (j + 1)) (g1 := g5) (c1 := c5) (w1 := w5) w4.drew (Below.refl _ w4).drew (by rw [List.length_take, List.length_drop, Nat.min_eq_left (by omega)]; exact hown5) hgrow5; rw [List.length_take, List.length_drop, Nat.min_eq_left (by omega)] at this; exact this); have har5 := (unhide HH).below (unhide HC5).below; have hA5 := har5.cR; have fg5 := har5.fg; have nR5 := har5.neRg; obtain ⟨v5, d5⟩ := har5.there (unhide HIR) 3 (by omega); clear har5; clear hown5 hgrow5 hat5))
      all_goals go_wp2
      all_goals go_ret
      all_goals refine ⟨rfl, ?_⟩
      all_goals rw [unhide HER]
      all_goals exact attr_close (unhide HH) (unhide HC5) (unhide HIR) (by simp; omega)
    · have hlz : l.length - (j + 1) = 0 := by omega
      have hdz : l.drop (j + 1) = [] := List.drop_eq_nil_of_le (by omega)
      rw [hdz, List.append_nil] at HER
      clear hdz
      by_cases hcj : cp = j + 1
      · obtain rfl : cp = j + 1 := hcj
        go_enter Try.func46, Try.ntmps46
        set_option maxRecDepth 10000 in
        go_wp2_with (first
          | (go_at_call 79; refine (unhide HI).mono ?_; rintro e w' ⟨rfl, rfl⟩)
          | (go_at_call 99; refine (unhide HF).mono ?_; rintro e w3 ⟨rfl, hb3⟩; have HB3 := hide hb3; have har3 := (unhide HH).below hb3; have hA3 := har3.cR; have fg3 := har3.fg; have nR3 := har3.neRg; have lR3 : bR < w3.heap.size := har3.lt.1; have lg3 : g < w3.heap.size := har3.lt.2; have c33 := (har3.cells10 (unhide HIR)).2.2.2.1; rw [unhide HAV] at c33; have hs3 := hb3.size; have HIN3 := hide ((unhide HIN).below hb3); clear hb3 har3)
          | (at_builtin; refine wpList_append_lies _ (by rfl) _ _ 30 (by rfl) w.heap.size 29 i0 _ 4 56 Try.underlying30 hi0 hz0 hz1 hz2 rfl (by omega) (.slice (some ⟨w3.heap.size, 0, none⟩) 0 0) 0 [] (by rfl) (empty_row w3 29 4 w.heap.size hs3) ⟨b, off, none⟩ j (j + 1) (attrRow (l.take j)) (by rfl) (by rw [show (attrRow (l.take j)).length = (l.take j).length * 4 from flat_len AttrM.cells 4 attr_len _, List.length_take]; omega) ((((unhide HIN3).take j).below ((Below.refl _ w3).alloc (Nat.le_refl _) _)).row) (attrs_oneCell _) hj1 (by unfold maxLen; omega) (by omega) (by simp; omega) _ rfl ?_; intro g4 c4 w4 hown4 hgrow4 hat4 hlt4; have HC4 := hide (first_take (unhide HB3) j (by rw [List.length_take]; omega) hown4 hgrow4); have hc4 : j ≤ c4 := (by have := cap_of (unhide HC4).own; rw [List.length_take] at this; omega); have har4 := (unhide HH).below (unhide HC4).below; have hA4 := har4.cR; have lR4 : bR < w4.heap.size := har4.lt.1; have lg4 : g < w4.heap.size := har4.lt.2; have fg4 := har4.fg; have nR4 := har4.neRg; have c34 := (har4.cells10 (unhide HIR)).2.2.2.1; rw [unhide HAV] at c34; have HIN4 := hide ((unhide HIN).below (unhide HC4).below); clear har4; clear hown4 hgrow4 hat4))
        set_option maxRecDepth 10000 in
        go_region
        all_goals go_wp2
        all_goals go_ret
        all_goals refine ⟨rfl, ?_⟩
        all_goals rw [unhide HER]
        all_goals exact attr_close (unhide HH) (⟨by have := (unhide HC4).own.drew; rw [List.length_take, Nat.min_eq_left (by omega)] at this ⊢; exact this, (unhide HC4).below.drew⟩) (unhide HIR) (by simp; omega)
      · have hcj' : ¬ j + 1 = cp := fun e => hcj e.symm
        go_enter Try.func46, Try.ntmps46
        set_option maxRecDepth 10000 in
        go_wp2_with (first
          | (go_at_call 79; refine (unhide HI).mono ?_; rintro e w' ⟨rfl, rfl⟩)
          | (go_at_call 99; refine (unhide HF).mono ?_; rintro e w3 ⟨rfl, hb3⟩; have HB3 := hide hb3; have har3 := (unhide HH).below hb3; have hA3 := har3.cR; have fg3 := har3.fg; have nR3 := har3.neRg; have lR3 : bR < w3.heap.size := har3.lt.1; have lg3 : g < w3.heap.size := har3.lt.2; have c33 := (har3.cells10 (unhide HIR)).2.2.2.1; rw [unhide HAV] at c33; have hs3 := hb3.size; have HIN3 := hide ((unhide HIN).below hb3); clear hb3 har3)
          | (at_builtin; refine wpList_append_lies _ (by rfl) _ _ 30 (by rfl) w.heap.size 29 i0 _ 4 56 Try.underlying30 hi0 hz0 hz1 hz2 rfl (by omega) (.slice (some ⟨w3.heap.size, 0, none⟩) 0 0) 0 [] (by rfl) (empty_row w3 29 4 w.heap.size hs3) ⟨b, off, none⟩ j cp (attrRow (l.take j)) (by rfl) (by rw [show (attrRow (l.take j)).length = (l.take j).length * 4 from flat_len AttrM.cells 4 attr_len _, List.length_take]; omega) ((((unhide HIN3).take j).below ((Below.refl _ w3).alloc (Nat.le_refl _) _)).row) (attrs_oneCell _) hj1 (by unfold maxLen; omega) (by omega) (by simp; omega) _ rfl ?_; intro g4 c4 w4 hown4 hgrow4 hat4 hlt4; have HC4 := hide (first_take (unhide HB3) j (by rw [List.length_take]; omega) hown4 hgrow4); have hc4 : j ≤ c4 := (by have := cap_of (unhide HC4).own; rw [List.length_take] at this; omega); have har4 := (unhide HH).below (unhide HC4).below; have hA4 := har4.cR; have lR4 : bR < w4.heap.size := har4.lt.1; have lg4 : g < w4.heap.size := har4.lt.2; have fg4 := har4.fg; have nR4 := har4.neRg; have c34 := (har4.cells10 (unhide HIR)).2.2.2.1; rw [unhide HAV] at c34; have HIN4 := hide ((unhide HIN).below (unhide HC4).below); clear har4; clear hown4 hgrow4 hat4))
        set_option maxRecDepth 10000 in
        go_region
        all_goals go_wp2
        all_goals go_ret
        all_goals refine ⟨rfl, ?_⟩
        all_goals rw [unhide HER]
        all_goals exact attr_close (unhide HH) (⟨by have := (unhide HC4).own.drew; rw [List.length_take, Nat.min_eq_left (by omega)] at this ⊢; exact this, (unhide HC4).below.drew⟩) (unhide HIR) (by simp; omega)
  · obtain rfl : j = 0 := by omega
    have hw1 : IntKind.i64.wrap 1 = 1 := by decide
    have hle1 : (1 : Int) ≤ (l.length : Int) := by omega
    by_cases hjn : 1 < l.length
    · have hcj : ¬ cp = 1 := by omega
      go_enter Try.func46, Try.ntmps46
      set_option maxRecDepth 10000 in
      go_wp2_with (first
        | (go_at_call 79; refine (unhide HI).mono ?_; rintro e w' ⟨rfl, rfl⟩)
        | (go_at_call 99; refine (unhide HF).mono ?_; rintro e w3 ⟨rfl, hb3⟩; have HB3 := hide hb3; have har3 := (unhide HH).below hb3; have hA3 := har3.cR; have fg3 := har3.fg; have nR3 := har3.neRg; have lR3 : bR < w3.heap.size := har3.lt.1; have lg3 : g < w3.heap.size := har3.lt.2; have c33 := (har3.cells10 (unhide HIR)).2.2.2.1; rw [unhide HAV] at c33; have hs3 := hb3.size; have HIN3 := hide ((unhide HIN).below hb3); clear hb3 har3))
      set_option maxRecDepth 10000 in
      go_region_law ((refine step_append_lies _ (by rfl) _ _ _ (by rfl) w.heap.size 29 i0 _ 4 56 Try.underlying30 hi0 hz0 hz1 hz2 rfl (by omega) (.slice (some ⟨w3.heap.size, 0, none⟩) 0 0) 0 [] (by rfl) (empty_row w3 29 4 w.heap.size hs3).drew ⟨b, off + 4, none⟩ (l.length - 1) (cp - 1) (attrRow (l.drop 1)) (by rfl) (by rw [show (attrRow (l.drop 1)).length = (l.drop 1).length * 4 from flat_len AttrM.cells 4 attr_len _, List.length_drop]) (by have := (((unhide HIN3).drop 1).below ((Below.refl _ w3).alloc (Nat.le_refl _) (.cells #[] 29)).drew).row; simpa using this) (attrs_oneCell _) (by omega) (by unfold maxLen; omega) (by omega) (by simp; omega) _ rfl ?_; intro g5 c5 w5 hown5 hgrow5 hat5 hlt5; have HC5 : Hid (AccA w w5 (.slice (some ⟨g5, 0, none⟩) (l.length - 1) c5) (l.drop 1)) := ⟨(by rw [List.length_drop]; simpa using hown5), (((unhide HB3).alloc hs3 _).drew).grown hgrow5 (by simp; omega) (fun k hk => by simp [Value.ownBlock] at hk; omega)⟩; have har5 := (unhide HH).below (unhide HC5).below; have hA5 := har5.cR; have fg5 := har5.fg; have nR5 := har5.neRg; obtain ⟨v5, d5⟩ := har5.there (unhide HIR) 3 (by omega); clear har5; clear hown5 hgrow5 hat5))
      all_goals go_wp2
      all_goals go_ret
      all_goals refine ⟨rfl, ?_⟩
      all_goals rw [unhide HER]
      all_goals exact attr_close (unhide HH) (unhide HC5) (unhide HIR) (by simp; omega)
    · have hl1 : l.length = 1 := by omega
      have hdz : l.drop (0 + 1) = [] := List.drop_eq_nil_of_le (by omega)
      rw [hdz, List.append_nil, List.take_zero] at HER
      clear hdz
      by_cases hcj : cp = 1
      · subst hcj
        go_enter Try.func46, Try.ntmps46
        set_option maxRecDepth 10000 in
        go_wp2_with (first
          | (go_at_call 79; refine (unhide HI).mono ?_; rintro e w' ⟨rfl, rfl⟩)
          | (go_at_call 99; refine (unhide HF).mono ?_; rintro e w3 ⟨rfl, hb3⟩; have HB3 := hide hb3; have har3 := (unhide HH).below hb3; have hA3 := har3.cR; have fg3 := har3.fg; have nR3 := har3.neRg; have lR3 : bR < w3.heap.size := har3.lt.1; have lg3 : g < w3.heap.size := har3.lt.2; have c33 := (har3.cells10 (unhide HIR)).2.2.2.1; rw [unhide HAV] at c33; have hs3 := hb3.size; have HIN3 := hide ((unhide HIN).below hb3); clear hb3 har3))
        set_option maxRecDepth 10000 in
        go_region
        all_goals go_wp2
        all_goals go_ret
        all_goals refine ⟨rfl, ?_⟩
        all_goals rw [unhide HER]
        all_goals (
          have hc := attr_close (unhide HH) (xs := []) (⟨(empty_row w3 29 4 w.heap.size hs3).drew, ((unhide HB3).alloc hs3 _).drew⟩ : AccA w (w3.alloc (.cells #[] 29)).drew (.slice (some ⟨w3.heap.size, 0, none⟩) 0 0) []) (unhide HIR) (by simp)
          simp only [World.setCell_drew, World.setCell_alloc_past _ _ _ _ lg3] at hc
          exact hc)
      · have hcj' : ¬ 1 = cp := fun e => hcj e.symm
        go_enter Try.func46, Try.ntmps46
        set_option maxRecDepth 10000 in
        go_wp2_with (first
          | (go_at_call 79; refine (unhide HI).mono ?_; rintro e w' ⟨rfl, rfl⟩)
          | (go_at_call 99; refine (unhide HF).mono ?_; rintro e w3 ⟨rfl, hb3⟩; have HB3 := hide hb3; have har3 := (unhide HH).below hb3; have hA3 := har3.cR; have fg3 := har3.fg; have nR3 := har3.neRg; have lR3 : bR < w3.heap.size := har3.lt.1; have lg3 : g < w3.heap.size := har3.lt.2; have c33 := (har3.cells10 (unhide HIR)).2.2.2.1; rw [unhide HAV] at c33; have hs3 := hb3.size; have HIN3 := hide ((unhide HIN).below hb3); clear hb3 har3))
        set_option maxRecDepth 10000 in
        go_region
        all_goals go_wp2
        all_goals go_ret
        all_goals refine ⟨rfl, ?_⟩
        all_goals rw [unhide HER]
        all_goals (
          have hc := attr_close (unhide HH) (xs := []) (⟨(empty_row w3 29 4 w.heap.size hs3).drew, ((unhide HB3).alloc hs3 _).drew⟩ : AccA w (w3.alloc (.cells #[] 29)).drew (.slice (some ⟨w3.heap.size, 0, none⟩) 0 0) []) (unhide HIR) (by simp)
          simp only [World.setCell_drew, World.setCell_alloc_past _ _ _ _ lg3] at hc
          exact hc)

theorem refDelAttr_sim (hS : RfS w base bR os G) (k space : Int) (name : ByteArray) :
    Calls Try.prog 46 #[.pointer (some ⟨bR, 0, none⟩), .int .i64 k, .int .i64 space, .string name] w fun e w' => e = .returned (.int .i64 (delAttrE os k space name)) ∧ URf G w w' base bR (delAttrR os k space name) := by
  have hS0 := hS
  obtain ⟨g, cap, rs, h, rfl, hG⟩ := hS
  obtain ⟨t1, t2, t3⟩ := refDelAttr_err h k space name
  cases hh : hasO (osOf rs) k with
  | false =>
    have e6 : delAttrE (osOf rs) k space name = 6 := by rw [delAttrE, if_pos hh]
    have er : delAttrR (osOf rs) k space name = osOf rs := by rw [delAttrR, e6, if_neg (by decide)]
    rw [e6, er]
    exact (t1 hh).mono fun e w' ⟨h1, h2⟩ => ⟨h1, hS0.upd h2⟩
  | true =>
    obtain ⟨i, o, rfl, ho⟩ := hasO_yes hh
    have hlt : i < rs.length := by rw [← osOf_len]; exact (List.getElem?_eq_some_iff.1 ho).1
    obtain ⟨r, hi⟩ : ∃ r, rs[i]? = some r := ⟨_, List.getElem?_eq_getElem hlt⟩
    have hro := osOf_get hi
    rw [ho] at hro
    cases hro
    have hat : attrsO (osOf rs) (i : Int) = r.o.attrs := by simp [attrsO, ho]
    have hE : delAttrE (osOf rs) i space name = if r.o.kind ≠ 1 then 10 else if idxM (sameKey space name) r.o.attrs = -1 then 1 else 0 := by
      rw [delAttrE, if_neg (by rw [hh]; decide), kindO_of ho, hat]
    by_cases hk : r.o.kind ≠ 1
    · rw [if_pos hk] at hE
      have er : delAttrR (osOf rs) i space name = osOf rs := by rw [delAttrR, hE, if_neg (by decide)]
      rw [hE, er]
      exact (t2 i r rfl hi hk).mono fun e w' ⟨h1, h2⟩ => ⟨h1, hS0.upd h2⟩
    · rw [if_neg hk] at hE
      have hk' : r.o.kind = 1 := by omega
      rcases idxM_or (sameKey space name) r.o.attrs with hj | ⟨j, hj⟩
      · rw [if_pos hj] at hE
        have er : delAttrR (osOf rs) i space name = osOf rs := by rw [delAttrR, hE, if_neg (by decide)]
        rw [hE, er]
        exact (t3 i r rfl hi hk' hj).mono fun e w' ⟨h1, h2⟩ => ⟨h1, hS0.upd h2⟩
      · rw [if_neg (by omega)] at hE
        have er : delAttrR (osOf rs) i space name = (osOf rs).modify i fun o => { o with attrs := o.attrs.eraseIdx (idxM (sameKey space name) o.attrs).toNat } := by rw [delAttrR, hE, if_pos rfl, Int.toNat_natCast]
        rw [hE, er]
        refine (refDelAttr_in h i r hi space name hk' j hj).mono fun e w' ⟨h1, av, h2, h3, h4⟩ => ⟨h1, ?_⟩
        have := urf_set hG hi h2 h3 (fun k e => by
          rcases e with e | e
          · exact .inr (h4 k e)
          · exact .inl (.inr e))
        rw [osOf_set rs i _ (fun o => { o with attrs := o.attrs.eraseIdx (idxM (sameKey space name) o.attrs).toNat }) hi (by simp [hj])] at this
        exact this
end
end Go.Proofs.Ytlbkoafeedlfaaa
