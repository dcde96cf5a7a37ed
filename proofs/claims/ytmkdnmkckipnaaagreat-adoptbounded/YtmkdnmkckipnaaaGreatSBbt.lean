/-
   
-/
import Derived.Test.YtmkdnmkckipnaaaGreatSBbr
import Derived.Deep.LoopGhost
import Derived.Test.YtmkdnmkckipnaaaGreatSBbs
namespace Go.Proofs.YtmkdnmkckipnaaaGreat
open Go.RowKit Go.Sort

section
variable {w wx : World} {P : Pt} {s : St} {c : Ct} {rest : List (Ob w.heap.size)} {n : Nat}
set_option maxHeartbeats 1000000 in
theorem gspecial_any (h : AE w wx P s c rest) (hi : Inv s n) (f : Int) (hf : 0 ≤ findM s.L f) : Calls Tryz.prog 92 #[.pointer (some ⟨P.bG, 0, none⟩), .int .i64 f] wx fun e w' => e = .returned (.int .i64 (blockP (keysO s.os) s.L f)) ∧ AE w w' P s c rest := by
  have hL := h.few hi
  obtain ⟨k, hk⟩ : ∃ k : Nat, findM s.L f = (k : Int) := ⟨(findM s.L f).toNat, by omega⟩
  have hkl : k < s.L.length := by
    unfold findM at hk
    split at hk
    · rename_i hm
      have := List.idxOf_lt_length_iff.2 hm
      omega
    · omega
  have hbl : blockP (keysO s.os) s.L f = specP (keysO s.os) s.L (s.L.length - (k + 1)) (k + 1) := by
    unfold blockP
    rw [hk, Int.toNat_natCast]
  rw [hbl]
  have HF := hide (fun W (hW : AE w W P s c rest) => ae_sfind hW hi f)
  rw [hk] at HF
  have HN := hide (fun W (hW : AE w W P s c rest) => ae_slen hW)
  have HAT := hide (fun W (hW : AE w W P s c rest) (i : Int) => ae_sat hW i)
  have HSP := hide (fun W (hW : AE w W P s c rest) (id : Int) => ae_special hW id)
  have HC := hide (fun W (hW : AE w W P s c rest) => hW.cells)
  obtain ⟨g0, g1, _⟩ := h.cells
  have HE := hide h
  have hw1 : IntKind.i64.wrap ((k : Int) + 1) = (k : Int) + 1 := wrap_small (by omega) (by omega)
  clear h hi hbl hk hf
  generalize hLL : s.L.length = ll at *
  clear hLL
  generalize hR : specP (keysO s.os) s.L (ll - (k + 1)) (k + 1) = R at *
  have HR := hide hR
  clear hR
  go_enter Tryz.func92, Tryz.ntmps92
  go_wp2_with (first
    | (go_at_call 89; refine ((unhide HF) _ (unhide HE)).mono ?_; rintro e w1 ⟨rfl, rfl⟩))
  go_loopg [5, 6] (ll - (k + 1)) (fun g s5 _ wr => ∃ j : Nat, j + g = ll ∧ s5 = .int .i64 j ∧ AE w wr P s c rest ∧ specP (keysO s.os) s.L g j = R)
  case atStart => exact ⟨k + 1, by omega, by simp, unhide HE, unhide HR⟩
  case round =>
    obtain ⟨j, hjg, rfl, hae, hrr⟩ := hrel
    have HE2 := hide hae
    have HRR := hide hrr
    obtain ⟨g0, g1, _⟩ := hae.cells
    clear hae hrr
    by_cases hj : j < ll
    · have hjz : (j : Int) < (ll : Int) := by omega
      obtain ⟨g1', rfl⟩ : ∃ g', gk = g' + 1 := ⟨gk - 1, by omega⟩
      have hrr := unhide HRR
      unfold specP at hrr
      cases hsp : specM (keysO s.os) (atM s.L (j : Int)) with
      | true =>
        rw [hsp, if_pos rfl] at hrr
        have HR3 := hide hrr
        have HSP2 := hide hsp
        clear hrr hsp
        go_wp2_with (first
          | (go_at_call 13; refine ((unhide HN) _ (unhide HE2)).mono ?_; rintro e w1 ⟨rfl, rfl⟩)
          | (go_at_call 15; refine ((unhide HAT) _ (unhide HE2) _).mono ?_; rintro e w1 ⟨rfl, rfl⟩)
          | (go_at_call 129; refine ((unhide HSP) _ (unhide HE2) _).mono ?_; rintro e w2 ⟨rfl, he2⟩; rw [unhide HSP2]; have HE3 := hide he2; clear he2))
        go_ret
        have e3 := unhide HR3
        subst e3
        exact ⟨rfl, unhide HE3⟩
      | false =>
        rw [hsp, if_neg (by simp)] at hrr
        have HR3 := hide hrr
        have HSP2 := hide hsp
        have hw2 : IntKind.i64.wrap ((j : Int) + 1) = (j : Int) + 1 := wrap_small (by omega) (by omega)
        clear hrr hsp
        go_wp2_with (first
          | (go_at_call 13; refine ((unhide HN) _ (unhide HE2)).mono ?_; rintro e w1 ⟨rfl, rfl⟩)
          | (go_at_call 15; refine ((unhide HAT) _ (unhide HE2) _).mono ?_; rintro e w1 ⟨rfl, rfl⟩)
          | (go_at_call 129; refine ((unhide HSP) _ (unhide HE2) _).mono ?_; rintro e w2 ⟨rfl, he2⟩; rw [unhide HSP2]; have HE3 := hide he2; clear he2))
        go_roundg g1'
        case measure => omega
        case rel => exact ⟨j + 1, by omega, by simp, unhide HE3, unhide HR3⟩
    · have hjz : ¬ (j : Int) < (ll : Int) := by omega
      obtain rfl : gk = 0 := by omega
      go_wp2_with (first
        | (go_at_call 13; refine ((unhide HN) _ (unhide HE2)).mono ?_; rintro e w1 ⟨rfl, rfl⟩))
      go_ret
      have e3 : (-1 : Int) = R := unhide HRR
      subst e3
      exact ⟨rfl, unhide HE2⟩
end
end Go.Proofs.YtmkdnmkckipnaaaGreat

namespace Go.Proofs.YtmkdnmkckipnaaaGreat
open Go.RowKit Go.Sort

theorem topM_take {L : List Int} {m : Nat} (h0 : 0 < m) (h1 : m ≤ L.length) : topM (L.take m) = atM L ((m : Int) - 1) ∧ popL (L.take m) = L.take (m - 1) := by
  have hl : (L.take m).length = m := by rw [List.length_take]; omega
  refine ⟨?_, ?_⟩
  · unfold topM atM
    rw [hl, if_pos (by omega), if_pos (by omega)]
    rw [List.getElem?_take, if_pos (by omega)]
  · unfold popL
    rw [hl, List.take_take, Nat.min_eq_left (by omega)]
theorem Inv.takeL {s : St} {n : Nat} (h : Inv s n) (m : Nat) : Inv ⟨s.os, s.L.take m, s.es, s.mark⟩ n := ⟨h.good.sub (List.take_sublist _ _), h.ent, h.few, h.less, h.one⟩
theorem findM_nat {L : List Int} {f : Int} (h : 0 ≤ findM L f) : ∃ k : Nat, findM L f = (k : Int) ∧ k < L.length ∧ L[k]? = some f := by
  unfold findM at h ⊢
  split at h
  · rename_i hm
    have hlt := List.idxOf_lt_length_iff.2 hm
    rw [if_pos hm]
    exact ⟨_, rfl, hlt, by rw [List.getElem?_eq_getElem hlt, List.getElem_idxOf hlt]⟩
  · omega
section
variable {w wx : World} {P : Pt} {s : St} {c : Ct} {rest : List (Ob w.heap.size)} {n : Nat}
set_option maxHeartbeats 1000000 in
theorem gpopTo_any (h : AE w wx P s c rest) (hi : Inv s n) (f : Int) (hf : 0 ≤ findM s.L f) : Calls Tryz.prog 93 #[.pointer (some ⟨P.bG, 0, none⟩), .int .i64 f] wx fun e w' => e = .returned (.tuple #[]) ∧ AE w w' P ⟨s.os, s.L.take (findM s.L f).toNat, s.es, s.mark⟩ c rest := by
  obtain ⟨k, hk, hkl, hkf⟩ := findM_nat hf
  rw [hk, Int.toNat_natCast]
  have HP : Hid (∀ (W : World) (m : Nat), 0 < m → m ≤ s.L.length → AE w W P ⟨s.os, s.L.take m, s.es, s.mark⟩ c rest → Calls Tryz.prog 38 #[.pointer (some ⟨P.bK, 0, none⟩)] W fun e w' => e = .returned (.int .i64 (atM s.L ((m : Int) - 1))) ∧ AE w w' P ⟨s.os, s.L.take (m - 1), s.es, s.mark⟩ c rest) := hide (fun W m h0 h1 hW => by
    have := ae_spop hW (hi.takeL m)
    simp only [(topM_take h0 h1).1, (topM_take h0 h1).2] at this
    exact this)
  have HC := hide (fun W m (hW : AE w W P ⟨s.os, s.L.take m, s.es, s.mark⟩ c rest) => hW.cells)
  have HE : Hid (AE w wx P ⟨s.os, s.L.take s.L.length, s.es, s.mark⟩ c rest) := hide (by rw [List.take_length]; exact h)
  have HAT : Hid (∀ m : Nat, 0 < m → m ≤ s.L.length → (atM s.L ((m : Int) - 1) = f ↔ m - 1 = k)) := hide (fun m h0 h1 => by
    have e : atM s.L ((m : Int) - 1) = s.L[m - 1]'(by omega) := by
      unfold atM
      rw [if_pos (by omega), show ((m : Int) - 1).toNat = m - 1 by omega, List.getElem?_eq_getElem (by omega)]
      rfl
    rw [e]
    obtain ⟨_, hkf2⟩ := List.getElem?_eq_some_iff.1 hkf
    constructor
    · intro e2
      have hp := List.pairwise_iff_getElem.1 hi.good.nodup
      rcases Nat.lt_trichotomy (m - 1) k with e3 | e3 | e3
      · exact absurd (e2.trans hkf2.symm) (hp _ _ (by omega) hkl e3)
      · exact e3
      · exact absurd (hkf2.trans e2.symm) (hp _ _ hkl (by omega) e3)
    · intro e2
      subst e2
      exact hkf2)
  clear h hi hk hf hkf
  generalize hLL : s.L.length = ll at *
  clear hLL
  go_enter Tryz.func93, Tryz.ntmps93
  go_wp2
  go_loopg [] ll (fun g wr => k < g ∧ g ≤ ll ∧ AE w wr P ⟨s.os, s.L.take g, s.es, s.mark⟩ c rest)
  case atStart => exact ⟨hkl, Nat.le_refl _, unhide HE⟩
  case round =>
    obtain ⟨h1, h2, hae⟩ := hrel
    obtain ⟨g0, g1, _⟩ := hae.cells
    have HA := hide hae
    have hat := (unhide HAT) gk (by omega) h2
    clear hae
    by_cases he : gk - 1 = k
    · have hv : atM s.L ((gk : Int) - 1) = f := hat.2 he
      have HV := hide hv
      clear hat hv
      go_wp2_with (go_at_call 38; refine ((unhide HP) _ gk (by omega) h2 (unhide HA)).mono ?_; rintro e w1 ⟨rfl, he1⟩; rw [unhide HV]; have HA1 := hide he1; clear he1)
      have HB := unhide HA1
      rw [he] at HB
      exact ⟨rfl, _, results_none rfl _ _ _, rfl, HB⟩
    · have hv : ¬ atM s.L ((gk : Int) - 1) = f := fun e => he (hat.1 e)
      have hv2 : (atM s.L ((gk : Int) - 1) != f) = true := by simpa using hv
      clear hat
      go_wp2_with (go_at_call 38; refine ((unhide HP) _ gk (by omega) h2 (unhide HA)).mono ?_; rintro e w1 ⟨rfl, he1⟩; have HA1 := hide he1; clear he1)
      go_roundg (gk - 1)
      case measure => omega
      case rel => exact ⟨by omega, by omega, unhide HA1⟩
end
end Go.Proofs.YtmkdnmkckipnaaaGreat

namespace Go.Proofs.YtmkdnmkckipnaaaGreat
open Go.RowKit Go.Sort

def topN (s : St) (name : ByteArray) : Bool := namedM (calOf (keysO s.os) (topM s.L)) name && decide (placeE s.es (topM s.L) < 0)
section
variable {w wx : World} {P : Pt} {s : St} {c : Ct} {rest : List (Ob w.heap.size)} {n : Nat}
theorem good_top {L : List Int} (h : L ≠ []) : topM L ∈ L := by
  have hl : 0 < L.length := List.length_pos_iff.2 h
  unfold topM atM
  rw [if_pos (by omega), show ((L.length : Int) - 1).toNat = L.length - 1 by omega, List.getElem?_eq_getElem (by omega)]
  exact List.getElem_mem _
set_option maxHeartbeats 1000000 in
theorem gtop_any (h : AE w wx P s c rest) (hi : Inv s n) (name : ByteArray) (hne : s.L ≠ []) : Calls Tryz.prog 37 #[.pointer (some ⟨P.bG, 0, none⟩), .string name] wx fun e w' => e = .returned (.bool (topN s name)) ∧ AE w w' P s c rest := by
  obtain ⟨k, hk, hkl⟩ := elOf_nat (hi.good.el _ (good_top hne))
  rw [keysO_len] at hkl
  obtain ⟨o, ho⟩ : ∃ o, s.os[k]? = some o := ⟨_, List.getElem?_eq_getElem hkl⟩
  have HT := hide (ae_stop h hi)
  have HN := hide (fun W (hW : AE w W P s c rest) => ae_node_in hW ho)
  have HF := hide (fun W (hW : AE w W P s c rest) => ae_lfind hW hi (topM s.L))
  rw [hk] at HT HF
  obtain ⟨g0, g1, g2, _⟩ := h.cells
  have HE := hide h
  have HC := hide (fun W (hW : AE w W P s c rest) => hW.cells.2.2.1)
  have hcal : calOf (keysO s.os) (topM s.L) = ⟨o.space, o.name⟩ := by
    have hel := hi.good.el _ (good_top hne)
    have hky : keyAt (keysO s.os) (k : Int) = some (keyO o) := by simp [keyAt, keysO, ho]
    rw [hk] at hel ⊢
    rw [elOf_key hky] at hel
    unfold calOf
    rw [elOf_key hky]
    split at hel
    · rename_i hq
      rw [if_pos hq]
      rfl
    · cases hel
  unfold topN
  rw [hcal, hk, namedM_eq]
  simp only
  obtain ⟨sp, hsp⟩ : ∃ sp, o.space = sp := ⟨_, rfl⟩
  obtain ⟨on, hon⟩ : ∃ on, o.name = on := ⟨_, rfl⟩
  rw [hsp, hon]
  have HSPN := hide (And.intro hsp hon)
  generalize hpl : placeE s.es (k : Int) = pl at *
  clear h hi hk hkl ho hcal hpl hsp hon
  by_cases h0 : sp = 0
  · subst h0
    by_cases h1 : on.toList = name.toList
    · have hb : ((0 : Int) == 0 && on.toList == name.toList && decide (pl < 0)) = decide (pl < 0) := by simp [h1]
      rw [hb]
      clear hb
      go_enter Tryz.func37, Tryz.ntmps37
      go_wp2_with (first
        | (go_at_call 83; refine (unhide HT).mono ?_; rintro e w1 ⟨rfl, rfl⟩)
        | (go_at_call 14; refine ((unhide HN) _ (unhide HE)).mono ?_; rintro e w2 ⟨nn, ao, m, c1, rfl, hn, he2⟩; have HE2 := hide he2; obtain ⟨nk, nsp, nm, av, da, sy, pa, fi, la, pr, ne, inn, att⟩ := nn; obtain rfl : nsp = (0 : Int) := hn.same.space.trans (unhide HSPN).1; obtain rfl : nm = on := hn.same.name.trans (unhide HSPN).2; have HE3 := hide (he2.more (below_newAc w2 (.cells #[.int .i64 nk, .int .i64 0, .string nm, .slice ao m c1, .string da, .string sy, .int .i64 pa, .int .i64 fi, .int .i64 la, .int .i64 pr, .int .i64 ne, .int .i64 inn] 47))); have g3 := (unhide HC) _ (unhide HE3); clear hn he2; simp only [nodeV, NodeM.cells])
        | (go_at_call 84; refine ((unhide HF) _ (unhide HE3)).mono ?_; rintro e w3 ⟨rfl, he3⟩; have HE4 := hide he3; clear he3))
      go_ret
      exact ⟨rfl, unhide HE4⟩
    · have hb : ((0 : Int) == 0 && on.toList == name.toList && decide (pl < 0)) = false := by simp [h1]
      rw [hb]
      clear hb
      go_enter Tryz.func37, Tryz.ntmps37
      go_wp2_with (first
        | (go_at_call 83; refine (unhide HT).mono ?_; rintro e w1 ⟨rfl, rfl⟩)
        | (go_at_call 14; refine ((unhide HN) _ (unhide HE)).mono ?_; rintro e w2 ⟨nn, ao, m, c1, rfl, hn, he2⟩; have HE2 := hide he2; obtain ⟨nk, nsp, nm, av, da, sy, pa, fi, la, pr, ne, inn, att⟩ := nn; obtain rfl : nsp = (0 : Int) := hn.same.space.trans (unhide HSPN).1; obtain rfl : nm = on := hn.same.name.trans (unhide HSPN).2; have HE3 := hide (he2.more (below_newAc w2 (.cells #[.int .i64 nk, .int .i64 0, .string nm, .slice ao m c1, .string da, .string sy, .int .i64 pa, .int .i64 fi, .int .i64 la, .int .i64 pr, .int .i64 ne, .int .i64 inn] 47))); have g3 := (unhide HC) _ (unhide HE3); clear hn he2; simp only [nodeV, NodeM.cells])
        | (go_at_call 84; refine ((unhide HF) _ (unhide HE3)).mono ?_; rintro e w3 ⟨rfl, he3⟩; have HE4 := hide he3; clear he3))
      go_ret
      exact ⟨rfl, unhide HE3⟩
  · have hb : (sp == 0 && on.toList == name.toList && decide (pl < 0)) = false := by simp [h0]
    rw [hb]
    clear hb
    go_enter Tryz.func37, Tryz.ntmps37
    go_wp2_with (first
      | (go_at_call 83; refine (unhide HT).mono ?_; rintro e w1 ⟨rfl, rfl⟩)
      | (go_at_call 14; refine ((unhide HN) _ (unhide HE)).mono ?_; rintro e w2 ⟨nn, ao, m, c1, rfl, hn, he2⟩; have HE2 := hide he2; obtain ⟨nk, nsp, nm, av, da, sy, pa, fi, la, pr, ne, inn, att⟩ := nn; obtain rfl : nsp = sp := hn.same.space.trans (unhide HSPN).1; obtain rfl : nm = on := hn.same.name.trans (unhide HSPN).2; have HE3 := hide (he2.more (below_newAc w2 (.cells #[.int .i64 nk, .int .i64 nsp, .string nm, .slice ao m c1, .string da, .string sy, .int .i64 pa, .int .i64 fi, .int .i64 la, .int .i64 pr, .int .i64 ne, .int .i64 inn] 47))); have g3 := (unhide HC) _ (unhide HE3); clear hn he2; simp only [nodeV, NodeM.cells])
      | (go_at_call 84; refine ((unhide HF) _ (unhide HE3)).mono ?_; rintro e w3 ⟨rfl, he3⟩; have HE4 := hide he3; clear he3))
    go_ret
    exact ⟨rfl, unhide HE3⟩
end
end Go.Proofs.YtmkdnmkckipnaaaGreat

namespace Go.Proofs.YtmkdnmkckipnaaaGreat
open Go.RowKit

theorem keysO_appG (os ms : List OneM) : keysO (os ++ ms) = keysO os ++ keysO ms := by simp [keysO]
theorem EntOk.grow {ks ms : List Key} {x : EntM} (h : EntOk ks x) : EntOk (ks ++ ms) x := h.imp id fun ⟨a, b, c⟩ => ⟨keyAt_grow a, b, c⟩
theorem hasO_key {os : List OneM} {k : Int} {q : Key} (h : keyAt (keysO os) k = some q) : hasO os k = true := by
  obtain ⟨i, rfl, hi⟩ := keyAt_some h
  have := (List.getElem?_eq_some_iff.1 hi).1
  rw [keysO_len] at this
  simp [hasO]
  omega
theorem hasO_el {os : List OneM} {L : List Int} (hg : Good (keysO os) L) {x : Int} (hx : x ∈ L) : hasO os x = true := by
  obtain ⟨i, rfl, hi⟩ := elOf_nat (hg.el x hx)
  rw [keysO_len] at hi
  simp [hasO]
  omega
theorem hasO_le {os os' : List OneM} (h : os.length ≤ os'.length) {k : Int} (hk : hasO os k = true) : hasO os' k = true := by
  simp only [hasO, decide_eq_true_eq] at hk ⊢
  omega
/-- A new element for an entry's token. -/
structure NewS (s : St) (n : Int) : Prop where
  err : (newR s n).2.2 = 0
  id : newI s n = (s.os.length : Int)
  key : keyAt (keysO (newP s n).os) (newI s n) = some ⟨1, 0, (tokE s.es n).name⟩
  grow : ∃ ms, (newP s n).os = s.os ++ ms ∧ 0 < ms.length ∧ ms.length ≤ 2
theorem new_ok {s : St} {n : Nat} (hi : Inv s n) (hr : s.os.length + 2 ≤ 32768) {id : Int} (hp : 0 ≤ placeE s.es id) : NewS s id ∧ Inv (newP s id) (s.os.length + 2) := by
  obtain ⟨ha, hl⟩ := tok_none hi hp
  obtain ⟨ms, h1, h2, h3, h4, h5, h6, h7⟩ := elemO_new (os := s.os) (nm := (tokE s.es id).name) hr hl
  have hR : newR s id = elemO s.os 0 (tokE s.es id).name [] := by unfold newR; rw [ha]
  have hos : (newP s id).os = s.os ++ ms := by unfold newP; rw [hR]; exact h1
  have hid : newI s id = (s.os.length : Int) := by unfold newI; rw [hR]; exact h2
  refine ⟨⟨by rw [hR]; exact h3, hid, by rw [hos, hid]; exact h7, ms, hos, h4, h5⟩, ⟨?_, ?_, ?_, hi.less, ?_⟩⟩
  · rw [hos, keysO_appG]; exact hi.good.grow
  · intro x hx
    rw [hos, keysO_appG]
    exact (hi.ent x hx).grow
  · rw [hos, List.length_append]; omega
  · intro o ho
    rw [hos] at ho
    rcases List.mem_append.1 ho with e | e
    · exact hi.one o e
    · exact h6 o e
theorem NewS.has {s : St} {n : Int} (h : NewS s n) : hasO (newP s n).os (newI s n) = true := hasO_key h.key
theorem NewS.more {s : St} {n : Int} (h : NewS s n) : s.os.length ≤ (newP s n).os.length ∧ (newP s n).os.length ≤ s.os.length + 2 := by
  obtain ⟨ms, e, _, h2⟩ := h.grow
  rw [e, List.length_append]
  omega
theorem putP_len (s : St) (p q id : Int) : (putP s p q id).os.length = s.os.length := (kin_spot s.os p q id).len

-- the stack, below a place
theorem at_nat {L : List Int} {i : Nat} (h : i < L.length) : L[i]? = some (atM L (i : Int)) := by
  unfold atM
  rw [if_pos (by omega), Int.toNat_natCast, List.getElem?_eq_getElem h]
  rfl
theorem idx_at {L : List Int} (hn : L.Nodup) {i : Nat} (h : i < L.length) : L.idxOf (atM L (i : Int)) = i := by
  have h1 := at_nat h
  obtain ⟨_, h2⟩ := List.getElem?_eq_some_iff.1 h1
  rw [← h2]
  exact hn.idxOf_getElem i h
theorem mem_at {L : List Int} {i : Nat} (h : i < L.length) : atM L (i : Int) ∈ L := List.mem_of_getElem? (at_nat h)
theorem take_leave {L : List Int} (hn : L.Nodup) {i : Nat} (h : i < L.length) : (removeL L (atM L (i : Int))).take i = L.take i ∧ i ≤ (removeL L (atM L (i : Int))).length := by
  unfold removeL
  rw [if_pos (mem_at h), idx_at hn h]
  refine ⟨?_, ?_⟩
  · rw [List.take_append_of_le_length (by rw [List.length_take]; omega), List.take_take, Nat.min_self]
  · rw [List.length_append, List.length_take]; omega
theorem take_swap {ks : List Key} {L : List Int} (hn : L.Nodup) {i : Nat} (h : i < L.length) (id : Int) : (swapL ks L (atM L (i : Int)) id).take i = L.take i ∧ i ≤ (swapL ks L (atM L (i : Int)) id).length := by
  unfold swapL
  split
  · rw [idx_at hn h]
    exact ⟨List.take_set_of_le (Nat.le_refl _), by rw [List.length_set]; omega⟩
  · exact ⟨rfl, by omega⟩

/-- From B down to F: what stays. -/
structure RI (f b : Int) (N i c : Nat) (L0 : List Int) (m0 : Nat) (s : St) (last : Int) : Prop where
  inv : Inv s (N + 6)
  room : s.os.length + 2 * (4 - c) ≤ N + 6
  plc : 0 ≤ placeE s.es f
  mrk : s.mark ≤ 1000000
  fix : s.L.take i = L0.take i
  lt : i ≤ s.L.length
  fin : f ∈ L0.take i
  hl : hasO s.os last = true
  hb : hasO s.os b = true
  old : m0 ≤ s.os.length
  es : s.es.length ≤ 100000
section
variable {f b last : Int} {N i c m0 : Nat} {L0 : List Int} {s : St}
theorem RI.pos (h : RI f b N i c L0 m0 s last) : 0 < i := by
  have := h.fin
  cases i with
  | zero => simp at this
  | succ i => omega
theorem RI.below (h : RI f b N (i + 1) c L0 m0 s last) (hne : atM s.L (i : Int) ≠ f) : f ∈ L0.take i := by
  have h1 := h.fin
  rw [← h.fix] at h1
  have h2 : (s.L.take (i + 1)).take i = (L0.take (i + 1)).take i := by rw [h.fix]
  rw [List.take_take, List.take_take, Nat.min_eq_left (Nat.le_succ i)] at h2
  rw [← h2]
  rw [List.take_add_one, at_nat (by have := h.lt; omega)] at h1
  rcases List.mem_append.1 h1 with e | e
  · exact e
  · simp only [Option.toList_some, List.mem_singleton] at e
    exact absurd e.symm hne
theorem RI.fix1 (h : RI f b N (i + 1) c L0 m0 s last) : s.L.take i = L0.take i := by
  have h2 : (s.L.take (i + 1)).take i = (L0.take (i + 1)).take i := by rw [h.fix]
  rwa [List.take_take, List.take_take, Nat.min_eq_left (Nat.le_succ i)] at h2
theorem placeE_ltG (es : List EntM) (id : Int) : placeE es id < (es.length : Int) ∨ placeE es id < 0 := by
  by_cases h : 0 ≤ placeE es id
  · obtain ⟨i, x, e, hx, _⟩ := place_at h
    have := (List.getElem?_eq_some_iff.1 hx).1
    omega
  · omega
theorem placeE_low (es : List EntM) (id : Int) : -9000000000 ≤ placeE es id + 1 := by
  have key : ∀ l : List (Nat × Int), -1 ≤ findP id l := by
    intro l
    induction l with
    | nil => exact Int.le_refl _
    | cons a l ih =>
      obtain ⟨i, x⟩ := a
      unfold findP
      split
      · omega
      · exact ih
  have := key (pairsN es es.length)
  unfold placeE
  omega
theorem place_mk {es : List EntM} (h : es.length ≤ 100000) (id : Int) : placeE es id + 1 ≤ 1000000 := by
  rcases placeE_ltG es id with e | e <;> omega
theorem goP_es (s : St) (n : Int) : (goP s n).es.length ≤ s.es.length := by
  unfold goP leaveP
  split
  · exact delE_leG _ _
  · exact Nat.le_refl _
theorem Inv.go {n : Nat} (h : Inv s n) (k : Int) : Inv (goP s k) n := by
  unfold goP
  split
  · exact (h.drop k).leave k
  · exact h.leave k
theorem dropP_mark (s : St) (n : Int) (h : s.mark ≤ 1000000) : (dropP s n).mark ≤ 1000000 := by
  unfold dropP
  simp only
  split <;> omega
theorem RI.go (h : RI f b N (i + 1) c L0 m0 s last) (hne : atM s.L (i : Int) ≠ f) : RI f b N i (c + 1) L0 m0 (goP s (atM s.L (i : Int))) last := by
  have hlt : i < s.L.length := by have := h.lt; omega
  have ht := take_leave h.inv.good.nodup hlt
  have hL : (goP s (atM s.L (i : Int))).L = removeL s.L (atM s.L (i : Int)) := by unfold goP leaveP; split <;> rfl
  have hos : (goP s (atM s.L (i : Int))).os = s.os := by unfold goP leaveP; split <;> rfl
  refine ⟨h.inv.go _, ?_, ?_, ?_, ?_, ?_, h.below hne, by rw [hos]; exact h.hl, by rw [hos]; exact h.hb, by rw [hos]; exact h.old, Nat.le_trans (goP_es _ _) h.es⟩
  · rw [hos]; have := h.room; omega
  · unfold goP leaveP
    split
    · exact place_del h.plc hne
    · exact h.plc
  · unfold goP leaveP
    split
    · exact dropP_mark s _ h.mrk
    · exact h.mrk
  · rw [hL, ht.1]; exact h.fix1
  · rw [hL]; exact ht.2
theorem swapEAc_len (ks : List Key) (es : List EntM) (old id : Int) : (swapEAc ks es old id).length = es.length := by
  unfold swapEAc
  split
  · rw [List.length_set]
  · rfl
theorem RI.new (h : RI f b N (i + 1) c L0 m0 s last) (hN : N + 8 ≤ 32768) (hc : c ≤ 3) (hp : 0 ≤ placeE s.es (atM s.L (i : Int))) : NewS s (atM s.L (i : Int)) ∧ Inv (newP s (atM s.L (i : Int))) (N + 6) := by
  have hr := h.room
  have := new_ok h.inv (by omega) hp
  exact ⟨this.1, this.2.mono (by omega)⟩
/-- The new one has the old one's place. -/
theorem RI.swapped (h : RI f b N (i + 1) c L0 m0 s last) (hN : N + 8 ≤ 32768) (hc : c ≤ 3) (hp : 0 ≤ placeE s.es (atM s.L (i : Int))) : Inv (swapP (newP s (atM s.L (i : Int))) (atM s.L (i : Int)) (newI s (atM s.L (i : Int)))) (N + 6) :=
  (h.new hN hc hp).2.swap _ _ (.inr (h.new hN hc hp).1.key)
theorem RI.again (h : RI f b N (i + 1) c L0 m0 s last) (hN : N + 8 ≤ 32768) (hc : c ≤ 3) (hne : atM s.L (i : Int) ≠ f) (hp : 0 ≤ placeE s.es (atM s.L (i : Int))) : RI f b N i (c + 1) L0 m0 (againP b s (atM s.L (i : Int)) last) (newI s (atM s.L (i : Int))) := by
  have hlt : i < s.L.length := by have := h.lt; omega
  obtain ⟨hn, hi1⟩ := h.new hN hc hp
  have hi2 := h.swapped hN hc hp
  have ht := take_swap (ks := keysO (newP s (atM s.L (i : Int))).os) h.inv.good.nodup hlt (newI s (atM s.L (i : Int)))
  have hm := hn.more
  have hL : (againP b s (atM s.L (i : Int)) last).L = swapL (keysO (newP s (atM s.L (i : Int))).os) s.L (atM s.L (i : Int)) (newI s (atM s.L (i : Int))) := by
    unfold againP
    split <;> rfl
  have hes : (againP b s (atM s.L (i : Int)) last).es = swapEAc (keysO (newP s (atM s.L (i : Int))).os) s.es (atM s.L (i : Int)) (newI s (atM s.L (i : Int))) := by
    unfold againP
    split <;> rfl
  have hos : (againP b s (atM s.L (i : Int)) last).os.length = (newP s (atM s.L (i : Int))).os.length := by
    unfold againP
    rw [putP_len]
    split <;> rfl
  have hmk : (againP b s (atM s.L (i : Int)) last).mark ≤ 1000000 := by
    unfold againP putP
    split
    · exact place_mk hi2.less _
    · exact h.mrk
  refine ⟨?_, ?_, ?_, hmk, ?_, ?_, h.below hne, hasO_le (by rw [hos]; exact Nat.le_refl _) hn.has, hasO_le (by rw [hos]; exact hm.1) h.hb, ?_, ?_⟩
  · unfold againP
    refine Inv.put ?_ _ _ _
    split
    · exact hi2.mark _
    · exact hi2
  · rw [hos]; have := h.room; omega
  · rw [hes]; exact place_swap h.plc hne
  · rw [hL, ht.1]; exact h.fix1
  · rw [hL]; exact ht.2
  · rw [hos]; exact Nat.le_trans h.old hm.1
  · rw [hes, swapEAc_len]; exact h.es
end
/-- What renew leaves. -/
structure RX (f b : Int) (N m0 : Nat) (s : St) (last : Int) : Prop where
  inv : Inv s (N + 6)
  plc : 0 ≤ placeE s.es f
  mrk : s.mark ≤ 1000000
  hl : hasO s.os last = true
  hb : hasO s.os b = true
  old : m0 ≤ s.os.length
theorem RI.out {f b last : Int} {N i c m0 : Nat} {L0 : List Int} {s : St} (h : RI f b N i c L0 m0 s last) : RX f b N m0 s last := ⟨h.inv, h.plc, h.mrk, h.hl, h.hb, h.old⟩
theorem renewP_ok {f b : Int} {N m0 : Nat} {L0 : List Int} (hN : N + 8 ≤ 32768) : ∀ {i c : Nat} {s : St} {last : Int}, RI f b N i c L0 m0 s last → RX f b N m0 (renewP f b i c s last).1 (renewP f b i c s last).2
  | 0, _, _, _, h => h.out
  | i + 1, c, s, last, h => by
    unfold renewP
    by_cases e : atM s.L (i : Int) = f
    · rw [if_pos e]; exact h.out
    · rw [if_neg e]
      by_cases e2 : 0 ≤ placeE s.es (atM s.L (i : Int)) ∧ c ≤ 3
      · rw [if_pos e2]; exact renewP_ok hN (h.again hN e2.2 e e2.1)
      · rw [if_neg e2]; exact renewP_ok hN (h.go e)

-- the place in the tree
theorem spotF_ok {ns : List NodeM} {os : List OneM} {L : List Int} (hs : Sim ns os) (hg : Good (keysO os) L) (hone : ∀ o ∈ os, OneI o) {k : Nat} (hk : k < os.length) (fo : Bool) : hasO os (spotF os L (k : Int) fo).1 = true ∧ ((spotF os L (k : Int) fo).2 = -1 ∨ hasO os (spotF os L (k : Int) fo).2 = true) := by
  have hout : ∀ (p : Nat) (q : Int), p < os.length → (q = -1 ∨ hasO os q = true) → hasO os (outP os ((p : Int), q)).1 = true ∧ ((outP os ((p : Int), q)).2 = -1 ∨ hasO os (outP os ((p : Int), q)).2 = true) := by
    intro p q hp hq
    have ho : os[p]? = some os[p] := List.getElem?_eq_getElem hp
    unfold outP
    simp only
    rw [qK_of ho, innerO_of ho]
    by_cases h : isOfO os[p] [tmplB] = true
    · rw [if_pos h]
      have h1 := (hone _ (List.getElem_mem hp)).inner.2 h
      rcases hs.inner p _ ho with e | ⟨e, m, hm, _⟩
      · exact absurd e h1
      · have := (List.getElem?_eq_some_iff.1 hm).1
        refine ⟨?_, .inl rfl⟩
        rw [e]
        simp [hasO]
        omega
    · rw [if_neg h]
      exact ⟨by simp [hasO]; omega, hq⟩
  unfold spotF
  cases fo with
  | false => exact hout k (-1) hk (.inl rfl)
  | true =>
    simp only [if_true, Int.toNat_natCast]
    unfold spotP
    by_cases hq : qK (keysO os) partsB (k : Int) = true
    · rw [if_pos hq]
      obtain ⟨_, p, hp, hpl⟩ := ways_same hs hg hone hk
      have h2 : (progF os L (k : Int)).2 = -1 ∨ hasO os (progF os L (k : Int)).2 = true := by
        unfold progF
        split
        · exact .inl rfl
        · rename_i hz
          rcases scanL_lt (qK (keysO os) [tableB, tmplB]) L L.length with e | ⟨j, e, hj, _⟩
          · exact absurd e hz
          · split
            · exact .inl rfl
            · split
              · right
                simp only
                rw [e]
                exact hasO_el hg (mem_at hj)
              · split
                · exact .inl rfl
                · exact .inl rfl
      have e : progF os L (k : Int) = ((p : Int), (progF os L (k : Int)).2) := by rw [← hp]
      rw [e]
      exact hout p _ hpl h2
    · rw [if_neg hq]
      exact hout k (-1) hk (.inl rfl)
theorem below_ok {os : List OneM} {L : List Int} (hg : Good (keysO os) L) {f : Int} (hf : f ∈ L) : ∃ k : Nat, belowP L f = (k : Int) ∧ k < os.length := by
  unfold belowP
  split
  · rename_i h
    obtain ⟨j, e, hj, _⟩ := findM_nat (L := L) (f := f) (by omega)
    rw [e] at h ⊢
    have hx : atM L ((j : Int) - 1) ∈ L := by
      rw [show (j : Int) - 1 = ((j - 1 : Nat) : Int) by omega]
      exact mem_at (by omega)
    obtain ⟨i, e2, hi⟩ := elOf_nat (hg.el _ hx)
    rw [keysO_len] at hi
    exact ⟨i, e2, hi⟩
  · obtain ⟨i, e2, hi⟩ := elOf_nat (hg.el _ hf)
    rw [keysO_len] at hi
    exact ⟨0, rfl, by omega⟩
end Go.Proofs.YtmkdnmkckipnaaaGreat
