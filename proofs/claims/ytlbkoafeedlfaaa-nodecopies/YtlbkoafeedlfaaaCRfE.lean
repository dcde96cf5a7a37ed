/-
  The document's own arena: a child is taken out.
-/
import Derived.Test.YtlbkoafeedlfaaaCRfD
namespace Go.Proofs.Ytlbkoafeedlfaaa
open Go.RowKit

section
variable {w w' : World} {base bR : Nat} {os : List OneM} {G : Nat → Prop} {ns : List NodeM}

def dropK (c : Nat) (l : List Nat) : List Nat := l.filter (· ≠ c)

theorem refUnlink_none {g cap : Nat} {rs : List OneR} (h : Rf w base bR g cap rs) (k : Int) (hk : hasO (osOf rs) k = false) :
    Calls Try.prog 40 #[.pointer (some ⟨bR, 0, none⟩), .int .i64 k] w fun e w' => e = .returned (.int .i64 6) ∧ w = w' := by
  have HI := hide (refIs_any h k)
  rw [hk] at HI
  clear h hk
  go_enter Try.func40, Try.ntmps40
  go_wp2_with (go_at_call 79; refine (unhide HI).mono ?_; rintro e w' ⟨rfl, rfl⟩)
  go_ret
  exact ⟨rfl, rfl⟩

theorem refUnlink_free {g cap : Nat} {rs : List OneR} (h : Rf w base bR g cap rs) (i : Nat) (r : OneR) (hi : rs[i]? = some r) (hu : r.o.up = -1) :
    Calls Try.prog 40 #[.pointer (some ⟨bR, 0, none⟩), .int .i64 i] w fun e w' => e = .returned (.int .i64 5) ∧ w = w' := by
  have hlt : i < rs.length := (List.getElem?_eq_some_iff.1 hi).1
  have HI := hide (refIs_any h i)
  have q1 : hasO (osOf rs) i = true := hasO_of (osOf_get hi)
  rw [q1] at HI
  have hA := h.cR
  have hn := h.most
  have c8 := (h.cells10 hi).2.2.2.2.2.2.2.2.1
  rw [hu] at c8
  clear h hi q1 hu
  go_enter Try.func40, Try.ntmps40
  go_wp2_with (go_at_call 79; refine (unhide HI).mono ?_; rintro e w' ⟨rfl, rfl⟩)
  go_ret
  exact ⟨rfl, rfl⟩

set_option maxHeartbeats 4000000 in
theorem refUnlink_ok {g cap : Nat} {rs : List OneR} (h : Rf w base bR g cap rs) (p c : Nat) (rp rc : OneR) (hp : rs[p]? = some rp) (hc : rs[c]? = some rc) (hpc : p ≠ c) (hup : rc.o.up = (p : Int)) :
    Calls Try.prog 40 #[.pointer (some ⟨bR, 0, none⟩), .int .i64 c] w fun e w' => e = .returned (.int .i64 0) ∧
      ∃ kv, Rf w' base bR g cap ((rs.set p { rp with o := { rp.o with kids := dropK c rp.o.kids }, kv := kv }).set c { rc with o := { rc.o with up := -1 } }) ∧ Mod (fun k => k = g) w w' ∧ (∀ k, blk kv = some k → w.heap.size ≤ k) := by
  have hlp : p < rs.length := (List.getElem?_eq_some_iff.1 hp).1
  have hlc : c < rs.length := (List.getElem?_eq_some_iff.1 hc).1
  have HI := hide (refIs_any h c)
  have i2 : hasO (osOf rs) c = true := hasO_of (osOf_get hc)
  rw [i2] at HI
  have hn := h.most
  have hA := h.cR
  have c8 := (h.cells10 hc).2.2.2.2.2.2.2.2.1
  rw [hup] at c8
  have hp1 : ((p : Int) == -1) = false := beq_eq_false_iff_ne.2 (by omega)
  obtain ⟨a, cp, hkv, hin, hkl⟩ := h.kids p rp hp
  obtain ⟨i0, hi0, hz0, hz1, hz2⟩ := info_parts Try.info3
  generalize hks : rp.o.kids = ks at *
  have HIN := hide hin
  have HH := hide h
  have HPP := hide hp
  have HCC := hide hc
  have HKV := hide hkv
  clear hin h hp hc i2 hkv hup
  go_enter Try.func40, Try.ntmps40
  go_wp2_with (go_at_call 79; refine (unhide HI).mono ?_; rintro e w' ⟨rfl, rfl⟩)
  go_loopg [6, 7] ks.length (fun k s6 s7 wx => ∃ (j : Nat) (xs : List Nat), s7 = .int .i64 j ∧ j + k = ks.length ∧ xs = (ks.take j).filter (· ≠ c) ∧ xs.length ≤ j ∧ Acc w wx s6 xs)
  case atStart => exact ⟨0, [], rfl, by omega, by simp, by simp, Acc.nil w w (Below.refl _ _)⟩
  case round =>
    obtain ⟨j, xs, rfl, hjk, hxs, hxl, hacc⟩ := hrel
    have HC := hide hacc
    have HXS := hide hxs
    clear hacc hxs
    have har := (unhide HH).below (unhide HC).below
    have hA1 := har.cR
    have c9 := (har.cells10 (unhide HPP)).2.2.2.2.2.2.2.2.2
    rw [unhide HKV] at c9
    by_cases hj : j < ks.length
    · have hx : ks[j]? = some ks[j] := List.getElem?_eq_getElem hj
      generalize ks[j] = y at hx
      obtain ⟨bb, off, rfl, hcw⟩ := (unhide HIN).cells j y hx
      have hblt : bb < w.heap.size := World.block_lt_of_cell? w _ hcw
      have hcj := ((unhide HC).below.cell (p := ⟨bb, off + j, none⟩) hblt).trans hcw
      have hjz : (j : Int) < (ks.length : Int) := by omega
      have htk : (ks.take (j + 1)).filter (· ≠ c) = (ks.take j).filter (· ≠ c) ++ (if y = c then [] else [y]) := by
        rw [List.take_add_one, hx, List.filter_append]
        by_cases e : y = c <;> simp [e]
      have HTK := hide htk
      clear htk hx har
      by_cases hyc : y = c
      · have hne : ((y : Int) != (c : Int)) = false := by simp [hyc]
        have hyc' : (if y = c then [] else [y] : List Nat) = [] := by simp [hyc]
        rw [hyc'] at HTK
        clear hyc hyc'
        go_wp2
        go_roundg (gk - 1)
        case measure => omega
        case rel => exact ⟨j + 1, xs, by go_num, by omega, by rw [unhide HTK, unhide HXS]; simp, by omega, unhide HC⟩
      · have hne : ((y : Int) != (c : Int)) = true := by rw [bne_iff_ne]; omega
        have hyc' : (if y = c then [] else [y] : List Nat) = [y] := by simp [hyc]
        rw [hyc'] at HTK
        clear hyc hyc'
        go_wp2_with (first
          | (at_builtin; go_must (refine wpList_append_lies _ (by rfl) _ _ 41 (by rfl) w.heap.size 3 i0 _ 1 8 Try.underlying41 hi0 hz0 hz1 hz2 rfl (by omega) u6 xs.length (intsV xs) (by rfl) ((unhide HC).own.alloc _) ⟨wr.heap.size, 0, none⟩ 1 1 [.int .i64 (y : Int)] (by rfl) (by rfl) (one_news wr 3 _) (by simp [Value.oneCell']) (by omega) (by unfold maxLen; omega) (by omega) (by have := (unhide HC).below.size; simp; omega) _ rfl ?_); intro g1 c1 w1 hown1 hgrow1 hat1 hlt1; have HC1 := hide ((unhide HC).step (y := y) _ hown1 hgrow1); clear hown1 hgrow1 hat1 hlt1))
        go_roundg (gk - 1)
        case measure => omega
        case rel => exact ⟨j + 1, xs ++ [y], by go_num, by omega, by rw [unhide HTK, unhide HXS], by simp; omega, unhide HC1⟩
    · have hjz : ¬ (j : Int) < (ks.length : Int) := by omega
      obtain rfl : j = ks.length := by omega
      have hfin : xs = dropK c ks := by rw [unhide HXS, List.take_length]; rfl
      have HFIN := hide hfin
      obtain ⟨a9, k9, e9, _⟩ := ownsRow_ints (unhide HC).own
      subst e9
      have fg1 := har.fg
      have nR := har.neRg
      obtain ⟨v8, d8⟩ := har.there (unhide HCC) 8 (by omega)
      clear hfin har
      set_option maxRecDepth 10000 in
      go_wp2
      go_ret
      refine ⟨rfl, ?_⟩
      rw [← unhide HFIN]
      exact link_close (unhide HH) (unhide HC) (unhide HPP) (unhide HCC) hpc (by omega) (-1)

theorem no_loop {f : Nat → Option Int} {i : Nat} (h : f i = some (i : Int)) : ∀ (path : List Nat), ¬ PathOf f i path
  | [], hp => by have : (i : Int) = -1 := hp; omega
  | j :: r, hp => by
    obtain ⟨e, m, hm, hr⟩ := hp
    have : i = j := by omega
    subst this
    rw [h] at hm
    cases hm
    exact no_loop h r hr

theorem refUnlink_sim (hS : RfS w base bR os G) (hs : Sim ns os) (c : Int) :
    Calls Try.prog 40 #[.pointer (some ⟨bR, 0, none⟩), .int .i64 c] w fun e w' => e = .returned (.int .i64 (unlinkE os c)) ∧ URf G w w' base bR (unlinkR os c) := by
  have hS0 := hS
  obtain ⟨g, cap, rs, h, rfl, hG⟩ := hS
  cases hh : hasO (osOf rs) c with
  | false =>
    have e6 : unlinkE (osOf rs) c = 6 := by rw [unlinkE, if_pos hh]
    have hr : unlinkR (osOf rs) c = osOf rs := by rw [unlinkR, e6, if_neg (by decide)]
    rw [e6, hr]
    exact (refUnlink_none h c hh).mono fun e w' ⟨h1, h2⟩ => ⟨h1, hS0.upd (h2 ▸ Below.refl _ _)⟩
  | true =>
    obtain ⟨ci, oc, rfl, hoc⟩ := hasO_yes hh
    have hcl : ci < rs.length := by rw [← osOf_len]; exact (List.getElem?_eq_some_iff.1 hoc).1
    obtain ⟨rc, hrc⟩ : ∃ r, rs[ci]? = some r := ⟨_, List.getElem?_eq_getElem hcl⟩
    have e2 := osOf_get hrc
    rw [hoc] at e2
    cases e2
    by_cases hu : rc.o.up = -1
    · have e5 : unlinkE (osOf rs) ci = 5 := by rw [unlinkE, if_neg (by rw [hh]; decide), upIO_of hoc, if_pos hu]
      have hr : unlinkR (osOf rs) ci = osOf rs := by rw [unlinkR, e5, if_neg (by decide)]
      rw [e5, hr]
      exact (refUnlink_free h ci rc hrc hu).mono fun e w' ⟨h1, h2⟩ => ⟨h1, hS0.upd (h2 ▸ Below.refl _ _)⟩
    · have e0 : unlinkE (osOf rs) ci = 0 := by rw [unlinkE, if_neg (by rw [hh]; decide), upIO_of hoc, if_neg hu]
      obtain ⟨p, op, A, B, hup, hop, hk⟩ := hs.cut hoc hu
      have hpl : p < rs.length := by rw [← osOf_len]; exact (List.getElem?_eq_some_iff.1 hop).1
      obtain ⟨rp, hrp⟩ : ∃ r, rs[p]? = some r := ⟨_, List.getElem?_eq_getElem hpl⟩
      have e1 := osOf_get hrp
      rw [hop] at e1
      cases e1
      have hpc : p ≠ ci := by
        intro e
        subst e
        obtain ⟨path, hpath⟩ := hs.ends p (by rw [osOf_len]; exact hpl)
        have hself : upO (osOf rs) p = some (p : Int) := by rw [upO_of hoc, if_neg hu, hup]
        exact absurd hpath (no_loop hself path)
      have hr : unlinkR (osOf rs) ci = unlinkO (osOf rs) p ci := by rw [unlinkR, if_pos e0, upIO_of hoc, hup]; simp
      rw [e0, hr]
      refine (refUnlink_ok h p ci rp rc hrp hrc hpc hup).mono fun e w' ⟨h1, kv, h2, h3, h4⟩ => ⟨h1, ?_⟩
      have := urf_two hG hrp hrc h2 h3 h4
      rw [osOf_two hrp hrc hpc kv (-1) (fun l => dropK ci l)] at this
      exact this
end
end Go.Proofs.Ytlbkoafeedlfaaa
