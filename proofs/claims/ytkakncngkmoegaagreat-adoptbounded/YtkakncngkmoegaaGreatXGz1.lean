import Derived.Test.YtkakncngkmoegaaGreatXGy
/-
  The agency: whether the top is all that there is to close; the element below F.
-/
namespace Go.Proofs.YtkakncngkmoegaaGreat
open Go.RowKit Go.Sort

def topN (s : St) (name : ByteArray) : Bool := namedM (calOf (keysO s.os) (topM s.L)) name && decide (placeE s.es (topM s.L) < 0)
section
variable {w wx : World} {P : Pt} {s : St} {c : Ct} {rest : List (Ob w.heap.size)} {n : Nat}
theorem good_top {L : List Int} (h : L ≠ []) : topM L ∈ L := by
  have hl : 0 < L.length := List.length_pos_iff.2 h
  unfold topM atM
  rw [if_pos (by omega), show ((L.length : Int) - 1).toNat = L.length - 1 by omega, List.getElem?_eq_getElem (by omega)]
  exact List.getElem_mem _
set_option maxHeartbeats 1000000 in
theorem gtop_any (h : AE w wx P s c rest) (hi : Inv s n) (name : ByteArray) (hne : s.L ≠ []) : Calls Tryz.prog 37 #[.pointer (some ⟨P.bG, 0, none⟩), .string name] wx fun e w' => e = .returned (.bool (topN s name)) ∧ AE w w' P s c rest := by
  obtain ⟨k, hk, hkl⟩ := elOf_nat (hi.good.el _ (good_top hne))
  rw [keysO_len] at hkl
  obtain ⟨o, ho⟩ : ∃ o, s.os[k]? = some o := ⟨_, List.getElem?_eq_getElem hkl⟩
  have HT := hide (ae_stop h hi)
  have HN := hide (fun W (hW : AE w W P s c rest) => ae_node_in hW ho)
  have HF := hide (fun W (hW : AE w W P s c rest) => ae_lfind hW hi (topM s.L))
  rw [hk] at HT HF
  obtain ⟨g0, g1, g2, _⟩ := h.cells
  have HE := hide h
  have HC := hide (fun W (hW : AE w W P s c rest) => hW.cells.2.2.1)
  have hcal : calOf (keysO s.os) (topM s.L) = ⟨o.space, o.name⟩ := by
    have hel := hi.good.el _ (good_top hne)
    have hky : keyAt (keysO s.os) (k : Int) = some (keyO o) := by simp [keyAt, keysO, ho]
    rw [hk] at hel ⊢
    rw [elOf_key hky] at hel
    unfold calOf
    rw [elOf_key hky]
    split at hel
    · rename_i hq
      rw [if_pos hq]
      rfl
    · cases hel
  unfold topN
  rw [hcal, hk, namedM_eq]
  simp only
  obtain ⟨sp, hsp⟩ : ∃ sp, o.space = sp := ⟨_, rfl⟩
  obtain ⟨on, hon⟩ : ∃ on, o.name = on := ⟨_, rfl⟩
  rw [hsp, hon]
  have HSPN := hide (And.intro hsp hon)
  generalize hpl : placeE s.es (k : Int) = pl at *
  clear h hi hk hkl ho hcal hpl hsp hon
  by_cases h0 : sp = 0
  · subst h0
    by_cases h1 : on.toList = name.toList
    · have hb : ((0 : Int) == 0 && on.toList == name.toList && decide (pl < 0)) = decide (pl < 0) := by simp [h1]
      rw [hb]
      clear hb
      go_enter Tryz.func37, Tryz.ntmps37
      go_wp2_with (first
        | (go_at_call 83; refine (unhide HT).mono ?_; rintro e w1 ⟨rfl, rfl⟩)
        | (go_at_call 14; refine ((unhide HN) _ (unhide HE)).mono ?_; rintro e w2 ⟨nn, ao, m, c1, rfl, hn, he2⟩; have HE2 := hide he2; obtain ⟨nk, nsp, nm, av, da, sy, pa, fi, la, pr, ne, inn, att⟩ := nn; obtain rfl : nsp = (0 : Int) := hn.same.space.trans (unhide HSPN).1; obtain rfl : nm = on := hn.same.name.trans (unhide HSPN).2; have HE3 := hide (he2.more (below_newAc w2 (.cells #[.int .i64 nk, .int .i64 0, .string nm, .slice ao m c1, .string da, .string sy, .int .i64 pa, .int .i64 fi, .int .i64 la, .int .i64 pr, .int .i64 ne, .int .i64 inn] 47))); have g3 := (unhide HC) _ (unhide HE3); clear hn he2; simp only [nodeV, NodeM.cells])
        | (go_at_call 84; refine ((unhide HF) _ (unhide HE3)).mono ?_; rintro e w3 ⟨rfl, he3⟩; have HE4 := hide he3; clear he3))
      go_ret
      exact ⟨rfl, unhide HE4⟩
    · have hb : ((0 : Int) == 0 && on.toList == name.toList && decide (pl < 0)) = false := by simp [h1]
      rw [hb]
      clear hb
      go_enter Tryz.func37, Tryz.ntmps37
      go_wp2_with (first
        | (go_at_call 83; refine (unhide HT).mono ?_; rintro e w1 ⟨rfl, rfl⟩)
        | (go_at_call 14; refine ((unhide HN) _ (unhide HE)).mono ?_; rintro e w2 ⟨nn, ao, m, c1, rfl, hn, he2⟩; have HE2 := hide he2; obtain ⟨nk, nsp, nm, av, da, sy, pa, fi, la, pr, ne, inn, att⟩ := nn; obtain rfl : nsp = (0 : Int) := hn.same.space.trans (unhide HSPN).1; obtain rfl : nm = on := hn.same.name.trans (unhide HSPN).2; have HE3 := hide (he2.more (below_newAc w2 (.cells #[.int .i64 nk, .int .i64 0, .string nm, .slice ao m c1, .string da, .string sy, .int .i64 pa, .int .i64 fi, .int .i64 la, .int .i64 pr, .int .i64 ne, .int .i64 inn] 47))); have g3 := (unhide HC) _ (unhide HE3); clear hn he2; simp only [nodeV, NodeM.cells])
        | (go_at_call 84; refine ((unhide HF) _ (unhide HE3)).mono ?_; rintro e w3 ⟨rfl, he3⟩; have HE4 := hide he3; clear he3))
      go_ret
      exact ⟨rfl, unhide HE3⟩
  · have hb : (sp == 0 && on.toList == name.toList && decide (pl < 0)) = false := by simp [h0]
    rw [hb]
    clear hb
    go_enter Tryz.func37, Tryz.ntmps37
    go_wp2_with (first
      | (go_at_call 83; refine (unhide HT).mono ?_; rintro e w1 ⟨rfl, rfl⟩)
      | (go_at_call 14; refine ((unhide HN) _ (unhide HE)).mono ?_; rintro e w2 ⟨nn, ao, m, c1, rfl, hn, he2⟩; have HE2 := hide he2; obtain ⟨nk, nsp, nm, av, da, sy, pa, fi, la, pr, ne, inn, att⟩ := nn; obtain rfl : nsp = sp := hn.same.space.trans (unhide HSPN).1; obtain rfl : nm = on := hn.same.name.trans (unhide HSPN).2; have HE3 := hide (he2.more (below_newAc w2 (.cells #[.int .i64 nk, .int .i64 nsp, .string nm, .slice ao m c1, .string da, .string sy, .int .i64 pa, .int .i64 fi, .int .i64 la, .int .i64 pr, .int .i64 ne, .int .i64 inn] 47))); have g3 := (unhide HC) _ (unhide HE3); clear hn he2; simp only [nodeV, NodeM.cells])
      | (go_at_call 84; refine ((unhide HF) _ (unhide HE3)).mono ?_; rintro e w3 ⟨rfl, he3⟩; have HE4 := hide he3; clear he3))
    go_ret
    exact ⟨rfl, unhide HE3⟩
end
end Go.Proofs.YtkakncngkmoegaaGreat
