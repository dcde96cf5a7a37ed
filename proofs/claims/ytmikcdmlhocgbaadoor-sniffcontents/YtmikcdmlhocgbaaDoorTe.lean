/-
  The document's Content.
-/
import Derived.Test.YtmikcdmlhocgbaaDoorTd
namespace Go.Proofs.YtmikcdmlhocgbaaDoor
open Go.RowKit Go.Lib

theorem bytes_made (s : ByteArray) (w : World) : ∃ cap W1, (convert 9 22 (.string s)).run Tryd.prog w = .ok (.slice (some ⟨w.heap.size, 0, none⟩) s.data.toList.length cap) W1 ∧ s.data.toList.length ≤ cap ∧ Row W1 w.heap.size s.data.toList ∧ Below w.heap.size w W1 := by
  have hcv := run_bytes_of_string (P := Tryd.prog) w 9 22 5 s Tryd.underlying9 Tryd.underlying22 Tryd.underlying5
  have hlo := low_start w s (grownCap w s.size 0 5)
  rw [len_data]
  refine ⟨_, _, hcv, ?_, ⟨fun i x hi => ?_⟩, hlo.below⟩
  · exact grownCap_ge _ _ _ _
  · have := hlo.cells i x hi
    rw [if_neg (by omega)] at this
    exact this
theorem low61 (c : UInt8) : low c = 61 ↔ c = 61 := by
  constructor
  · intro h
    by_cases hc : 65 ≤ c.toNat ∧ c.toNat ≤ 90
    · have h1 := low_cap c hc.1 hc.2
      rw [h] at h1
      have h2 : ((61 : UInt8).toNat : Int) = 61 := rfl
      omega
    · rw [low_other c hc] at h
      exact h
  · rintro rfl
    rfl
theorem lowq (q : UInt8) (hq : q = 34 ∨ q = 39) (c : UInt8) : low c = q ↔ c = q := by
  constructor
  · intro h
    by_cases hc : 65 ≤ c.toNat ∧ c.toNat ≤ 90
    · have h1 := low_cap c hc.1 hc.2
      rw [h] at h1
      have h2 : ((34 : UInt8).toNat : Int) = 34 := rfl
      have h3 : ((39 : UInt8).toNat : Int) = 39 := rfl
      rcases hq with rfl | rfl <;> omega
    · rw [low_other c hc] at h
      exact h
  · rintro rfl
    rcases hq with rfl | rfl <;> rfl

theorem cut_back {W : World} {b lo hi cap : Nat} {l : List UInt8} (h : Row W b l) (h1 : lo ≤ hi) (h2 : hi ≤ l.length) (h3 : l.length ≤ cap) :
    (convert 22 9 (.slice (if cap = lo then some ⟨b, 0, none⟩ else some ⟨b, lo, none⟩) (hi - lo) (cap - lo))).run Tryd.prog W = .ok (.string ⟨((l.take hi).drop lo).toArray⟩) W := by
  have hlen : ((l.take hi).drop lo).length = hi - lo := by rw [List.length_drop, List.length_take]; omega
  rw [← hlen]
  by_cases hc : cap = lo
  · rw [if_pos hc]
    exact run_convert_bytes_back (P := Tryd.prog) W 22 9 5 ⟨b, 0, none⟩ _ _ Tryd.underlying22 Tryd.underlying5 Tryd.underlying9 (fun j hj => by omega)
  · rw [if_neg hc]
    refine run_convert_bytes_back (P := Tryd.prog) W 22 9 5 ⟨b, lo, none⟩ _ _ Tryd.underlying22 Tryd.underlying5 Tryd.underlying9 (fun j hj => ?_)
    have ad : (⟨b, lo, none⟩ : Addr).add j = ⟨b, lo + j, none⟩ := by unfold Addr.add; split <;> simp_all
    rw [ad, h.at (i := lo + j) (by omega)]
    simp [List.getElem_drop, List.getElem_take]

set_option maxRecDepth 8000 in
set_option maxHeartbeats 2000000 in
theorem refContent_any (s : ByteArray) (w : World) (hs : Small s) :
    Calls Tryd.prog 16 #[.string s] w fun e w' => e = .returned (optV (contentM s.data.toList)) ∧ Below w.heap.size w w' := by
  obtain ⟨cap, W1, hcv, hcap, hrow, hbel⟩ := bytes_made s w
  have hlen := len_data s
  have HS := hide (show Short s.data.toList.length by unfold Short; rw [hlen]; exact hs)
  have HR := hide hrow
  have HB := hide hbel
  generalize s.data.toList = l at hcv hcap HS HR ⊢
  have HCAP := hide hcap
  clear hrow hbel hlen hs hcap
  obtain ⟨A, hA⟩ : ∃ A, contentM l = A := ⟨_, rfl⟩
  rw [hA]
  have HA := hide hA
  clear hA
  go_enter Tryd.func16, Tryd.ntmps16
  go_wp2
  go_loopg [5] (l.length + 1) (fun g s5 wx => ∃ j : Nat, s5 = .int .i64 j ∧ j ≤ l.length ∧ l.length < g + j ∧ contentF l g j = A ∧ ∃ n, wx = W1.drewN n)
  case atStart => exact ⟨0, rfl, Nat.zero_le _, by omega, by rw [← unhide HA]; rfl, 0, rfl⟩
  case round =>
    obtain ⟨j, rfl, hj, hjg, hcj, n0, rfl⟩ := hrel
    obtain ⟨g, rfl⟩ : ∃ g, gk = g + 1 := ⟨gk - 1, by omega⟩
    have HJ := hide (And.intro hj (And.intro hjg hcj))
    clear hj hjg hcj
    go_wp2
    go_loopg [5] (l.length + 1 - j) (fun g2 s5 wx => ∃ i : Nat, s5 = .int .i64 i ∧ i + g2 = l.length + 1 ∧ j ≤ i ∧ i ≤ l.length ∧ findM charsetL l j = findM charsetL l i ∧ ∃ n, wx = W1.drewN n)
    case atStart => exact ⟨j, rfl, by have := unhide HJ; omega, Nat.le_refl _, (unhide HJ).1, rfl, _, rfl⟩
    case round =>
      obtain ⟨i, rfl, hig, hji, hil, hfi, n1, rfl⟩ := hrel
      have HI := hide (And.intro hig (And.intro hji (And.intro hil hfi)))
      by_cases hi : i < l.length
      · have hiz : (i : Int) < (l.length : Int) := by omega
        have HBG := hide (fun n => refBegins_any (cap := cap) ((unhide HR).dn n) hil (unhide HS) ⟨#[99, 104, 97, 114, 115, 101, 116]⟩ (by decide) (by decide))
        change Hid (∀ n, Calls Tryd.prog 22 #[.slice (some ⟨w.heap.size, 0, none⟩) l.length cap, .int .i64 i, .string ⟨#[99, 104, 97, 114, 115, 101, 116]⟩] (W1.drewN n) fun e w' => e = .returned (.bool (seesM l i charsetL)) ∧ ∃ n_1, w' = (W1.drewN n).drewN n_1) at HBG
        have e1 : findM charsetL l i = if seesM l i charsetL then i else findM charsetL l (i + 1) := by
          unfold findM
          rw [show l.length - i = (l.length - (i + 1)) + 1 by omega, findF]
        cases hse : seesM l i charsetL with
        | false =>
          rw [hse] at HBG
          rw [hse, if_neg (by simp)] at e1
          have HE1 := hide e1
          have hw1 : IntKind.i64.wrap ((i : Int) + 1) = (i : Int) + 1 := by have := unhide HS; unfold Short at this; exact wrap_add i 1 (by omega) (by omega)
          clear hig hji hil hfi hi e1 hse
          go_wp2_with (first | (go_at_call 22; refine ((unhide HBG) _).mono ?_; rintro e w1 ⟨rfl, m1, rfl⟩))
          go_roundg (gk - 1)
          case measure => have := unhide HI; omega
          case rel => exact ⟨i + 1, by go_num, by have := unhide HI; omega, by have := unhide HI; omega, by have := unhide HI; omega, (unhide HI).2.2.2.trans (unhide HE1), _, rfl⟩
        | true =>
          rw [hse] at HBG
          rw [hse, if_pos rfl] at e1
          have h7 := sees_fits hse (by decide)
          have e7 : charsetL.length = 7 := rfl
          rw [e7] at h7
          have hfq : findM charsetL l j = i := hfi.trans e1
          have HFY := hide (fun h => contentF_yes (l := l) (n := g) (k := j) (by rw [hfq]; exact hi) h)
          have HFN := hide (fun h => contentF_no (l := l) (n := g) (k := j) (by rw [hfq]; exact hi) h)
          rw [hfq] at HFY HFN
          obtain ⟨m, hm⟩ : ∃ m : Nat, i + 7 = m := ⟨_, rfl⟩
          rw [hm] at HFY HFN
          have hcast : (i : Int) + 7 = (m : Int) := by omega
          have hw7 : IntKind.i64.wrap (m : Int) = (m : Int) := by have := unhide HS; unfold Short at this; rw [← hcast]; exact wrap_add i 7 (by omega) (by omega)
          have hne : ((i : Int) == (l.length : Int)) = false := by simp; omega
          have HPP := hide (fun n => refPass_any (k := m) (cap := cap) ((unhide HR).dn n) (by omega) (unhide HS))
          have hpl := passP_le (p := blankP) (l := l) (k := m) (by omega)
          generalize passP blankP l m = p at HPP hpl HFY HFN
          have HPL := hide (And.intro hpl (And.intro hm h7))
          have HSP := hide (fun (h : p < l.length) => sees_one h 61)
          by_cases hp : p < l.length
          · have hpz : (p : Int) < (l.length : Int) := by omega
            have hcell := (unhide HR).at hp
            have HSP1 := hide ((unhide HSP) hp)
            by_cases h61 : l[p] = 61
            · have hq61 : ((l[p].toNat : Int) == 61) = true := by rw [h61]; rfl
              have HY := hide (((unhide HFY) ((unhide HSP1).trans (by rw [(low61 _).2 h61]; rfl))).symm.trans (unhide HJ).2.2)
              clear h61 HSP1
              generalize l[p] = c61 at hcell hq61
              obtain ⟨p1, hp1⟩ : ∃ p1 : Nat, p + 1 = p1 := ⟨_, rfl⟩
              unfold charsetM at HY
              rw [hp1] at HY
              have hcast1 : (p : Int) + 1 = (p1 : Int) := by omega
              have hwp1 : IntKind.i64.wrap (p1 : Int) = (p1 : Int) := by have := unhide HS; unfold Short at this; rw [← hcast1]; exact wrap_add p 1 (by omega) (by omega)
              have HPQ := hide (fun n => refPass_any (k := p1) (cap := cap) ((unhide HR).dn n) (by omega) (unhide HS))
              have hql := passP_le (p := blankP) (l := l) (k := p1) (by omega)
              generalize passP blankP l p1 = q at HPQ hql HY
              clear hig hji hil hfi hi e1 hse h7 e7 hfq hm hpl hp hp1
              by_cases hq : q < l.length
              · have heq : ((q : Int) == (l.length : Int)) = false := by simp; omega
                have hqz : (q : Int) < (l.length : Int) := by omega
                have hcq := (unhide HR).at hq
                have HY1 := unhide HY
                rw [if_neg (by omega)] at HY1
                have ea : amongM l q quotesL = quotesL.contains l[q] := by unfold amongM; rw [List.getElem?_eq_getElem hq]
                have eg : l[q]? = some l[q] := List.getElem?_eq_getElem hq
                rw [ea] at HY1
                unfold quotedM at HY1
                rw [eg] at HY1
                simp only at HY1
                obtain ⟨q1, hq1⟩ : ∃ q1 : Nat, q + 1 = q1 := ⟨_, rfl⟩
                rw [hq1] at HY1
                have hcastq : (q : Int) + 1 = (q1 : Int) := by omega
                have hwq1 : IntKind.i64.wrap (q1 : Int) = (q1 : Int) := by have := unhide HS; unfold Short at this; rw [← hcastq]; exact wrap_add q 1 (by omega) (by omega)
                have HBH := hide (fun (n : Nat) (c : UInt8) (hc : c = 34 ∨ c = 39) => refBehind_any (k := q1) (cap := cap) ((unhide HR).dn n) (by omega) (unhide HS) c (lowq c hc))
                have HQL := hide (And.intro hql (And.intro hq hq1))
                generalize l[q] = c at hcq HY1
                clear HY ea eg hql hq1 hq
                by_cases hqq : c = 34 ∨ c = 39
                · have hcon : quotesL.contains c = true := by rcases hqq with rfl | rfl <;> rfl
                  rw [hcon, if_pos rfl] at HY1
                  have HB1 := hide (fun n => (unhide HBH) n c hqq)
                  have hfl := find_le (x := [c]) (l := l) (k := q1) (by have := unhide HQL; omega)
                  generalize findM [c] l q1 = f at HY1 HB1 hfl
                  by_cases hf : f < l.length
                  · rw [if_pos hf] at HY1
                    rw [if_pos hf] at HB1
                    obtain ⟨f1, hf1⟩ : ∃ f1 : Nat, f + 1 = f1 := ⟨_, rfl⟩
                    have hcf : (f : Int) + 1 = (f1 : Int) := by omega
                    rw [hcf] at HB1
                    have hwf : IntKind.i64.wrap ((f1 : Int) - 1) = (f : Int) := by have := unhide HS; unfold Short at this; rw [show (f1 : Int) - 1 = (f : Int) + 0 by omega]; rw [wrap_add f 0 (by omega) (by omega)]; omega
                    have hqfz : (q1 : Int) ≤ (f : Int) := by omega
                    have hfcz : (f : Int) ≤ (cap : Int) := by have := unhide HCAP; omega
                    clear hcf hf1
                    have HY2 := hide HY1
                    have HFL := hide (And.intro hf hfl)
                    have hbk := fun n => cut_back ((unhide HR).dn n) hfl.1 hfl.2 (unhide HCAP)
                    clear HY1 hf hfl hcon HBH
                    rcases hqq with rfl | rfl
                    · go_wp2_with (first
                | (go_at_call 22; refine ((unhide HBG) _).mono ?_; rintro e w1 ⟨rfl, m1, rfl⟩)
                | (go_at_call 35; have _x := unhide HM2; refine ((unhide HPQ) _).mono ?_; rintro e w1 ⟨rfl, m3, rfl⟩)
                | (go_at_call 35; refine ((unhide HPP) _).mono ?_; rintro e w1 ⟨rfl, m2, rfl⟩; have HM2 := hide True.intro))
                      go_at_call 28
                      refine ((unhide HB1) _).mono ?_
                      rintro e w1 ⟨rfl, m4, rfl⟩
                      dsimp only
                      iterate 19 (first | go_values | go_skip | go_guarded | go_step | go_upon)
                      refine wp_cond_split (t := false) rfl (fun h => by cases h) (fun _ => ?_)
                      iterate 24 (first | go_values | go_skip | go_guarded | go_step | go_upon)
                      clear hwf
                      go_step
                      clear hbk
                      generalize (if cap = q1 then (some ⟨w.heap.size, 0, none⟩ : Option Addr) else some ⟨w.heap.size, q1, none⟩) = zz
                      go_wp2
                      go_ret2
                      rw [← unhide HY2]
                      exact ⟨rfl, below_dn (unhide HB) _⟩
                    · go_wp2_with (first
                | (go_at_call 22; refine ((unhide HBG) _).mono ?_; rintro e w1 ⟨rfl, m1, rfl⟩)
                | (go_at_call 35; have _x := unhide HM2; refine ((unhide HPQ) _).mono ?_; rintro e w1 ⟨rfl, m3, rfl⟩)
                | (go_at_call 35; refine ((unhide HPP) _).mono ?_; rintro e w1 ⟨rfl, m2, rfl⟩; have HM2 := hide True.intro))
                      go_at_call 28
                      refine ((unhide HB1) _).mono ?_
                      rintro e w1 ⟨rfl, m4, rfl⟩
                      dsimp only
                      iterate 19 (first | go_values | go_skip | go_guarded | go_step | go_upon)
                      refine wp_cond_split (t := false) rfl (fun h => by cases h) (fun _ => ?_)
                      iterate 24 (first | go_values | go_skip | go_guarded | go_step | go_upon)
                      clear hwf
                      go_step
                      clear hbk
                      generalize (if cap = q1 then (some ⟨w.heap.size, 0, none⟩ : Option Addr) else some ⟨w.heap.size, q1, none⟩) = zz
                      go_wp2
                      go_ret2
                      rw [← unhide HY2]
                      exact ⟨rfl, below_dn (unhide HB) _⟩
                  · rw [if_neg hf] at HY1
                    rw [if_neg hf] at HB1
                    have HY2 := hide HY1
                    clear HY1 hf hfl hcon HBH
                    rcases hqq with rfl | rfl
                    · go_wp2_with (first
                | (go_at_call 22; refine ((unhide HBG) _).mono ?_; rintro e w1 ⟨rfl, m1, rfl⟩)
                | (go_at_call 35; have _x := unhide HM2; refine ((unhide HPQ) _).mono ?_; rintro e w1 ⟨rfl, m3, rfl⟩)
                | (go_at_call 35; refine ((unhide HPP) _).mono ?_; rintro e w1 ⟨rfl, m2, rfl⟩; have HM2 := hide True.intro)
                        | (go_at_call 28; refine ((unhide HB1) _).mono ?_; rintro e w1 ⟨rfl, m4, rfl⟩))
                      go_ret2
                      rw [← unhide HY2]
                      exact ⟨rfl, below_dn (unhide HB) _⟩
                    · go_wp2_with (first
                | (go_at_call 22; refine ((unhide HBG) _).mono ?_; rintro e w1 ⟨rfl, m1, rfl⟩)
                | (go_at_call 35; have _x := unhide HM2; refine ((unhide HPQ) _).mono ?_; rintro e w1 ⟨rfl, m3, rfl⟩)
                | (go_at_call 35; refine ((unhide HPP) _).mono ?_; rintro e w1 ⟨rfl, m2, rfl⟩; have HM2 := hide True.intro)
                        | (go_at_call 28; refine ((unhide HB1) _).mono ?_; rintro e w1 ⟨rfl, m4, rfl⟩))
                      go_ret2
                      rw [← unhide HY2]
                      exact ⟨rfl, below_dn (unhide HB) _⟩
                · have hn34 : c ≠ 34 := fun h => hqq (.inl h)
                  have hn39 : c ≠ 39 := fun h => hqq (.inr h)
                  have hq34 : ((c.toNat : Int) == 34) = false := byte_ne c 34 hn34
                  have hq39 : ((c.toNat : Int) == 39) = false := byte_ne c 39 hn39
                  have hcon : quotesL.contains c = false := by simp [quotesL, hn34, hn39]
                  rw [hcon, if_neg (by simp)] at HY1
                  have HY2 := hide HY1
                  clear HY1 hcon HBH hqq hn34 hn39
                  go_wp2_with (first
                | (go_at_call 22; refine ((unhide HBG) _).mono ?_; rintro e w1 ⟨rfl, m1, rfl⟩)
                | (go_at_call 35; have _x := unhide HM2; refine ((unhide HPQ) _).mono ?_; rintro e w1 ⟨rfl, m3, rfl⟩)
                | (go_at_call 35; refine ((unhide HPP) _).mono ?_; rintro e w1 ⟨rfl, m2, rfl⟩; have HM2 := hide True.intro))
                  go_loopg [7] (l.length + 1 - q) (fun g3 s7 wx => ∃ e : Nat, s7 = .int .i64 e ∧ e + g3 = l.length + 1 ∧ q ≤ e ∧ e ≤ l.length ∧ passP charP l q = passP charP l e ∧ ∃ n, wx = W1.drewN n)
                  case atStart => exact ⟨q, rfl, by have := unhide HQL; omega, Nat.le_refl _, by have := unhide HQL; omega, rfl, _, rfl⟩
                  case round =>
                    obtain ⟨e, rfl, heg, hqe0, hel, hpe, n3, rfl⟩ := hrel
                    have HE3 := hide (And.intro heg (And.intro hqe0 (And.intro hel hpe)))
                    by_cases he : e < l.length
                    · have hez : (e : Int) < (l.length : Int) := by omega
                      have hce := (unhide HR).at he
                      have HBL := hide (blank_any l[e])
                      have eask : askP charP l e = charP l[e] := by unfold askP; rw [List.getElem?_eq_getElem he]
                      have HYE := hide (fun h => passP_yes (p := charP) (l := l) (k := e) h)
                      have HNE := hide (fun h => passP_no (p := charP) (l := l) (k := e) h)
                      rw [eask] at HYE HNE
                      generalize l[e] = c3 at hce HBL HYE HNE
                      cases hb3 : blankP c3 with
                      | true =>
                        rw [hb3] at HBL
                        have hch : charP c3 = false := by
                          have : c3 ∈ blanks := by simpa [blankP] using hb3
                          simp only [blanks, List.mem_cons, List.not_mem_nil, or_false] at this
                          rcases this with rfl | rfl | rfl | rfl | rfl <;> rfl
                        have HP3 := hide (hpe.trans ((unhide HNE) hch))
                        clear HYE HNE hb3 hch eask heg hqe0 hel hpe he
                        have hqe : (q : Int) ≤ (e : Int) := by have := unhide HE3; omega
                        have hec : (e : Int) ≤ (cap : Int) := by have := unhide HE3; have := unhide HCAP; omega
                        have hncq : ¬ cap = q := by have := unhide HQL; have := unhide HCAP; omega
                        have hbk := fun n => cut_back (cap := cap) ((unhide HR).dn n) (unhide HE3).2.1 (unhide HE3).2.2.1 (unhide HCAP)
                        rw [if_neg hncq] at hbk
                        go_wp2_with (first | (go_at_call 24; refine ((unhide HBL) _).mono ?_; rintro e w1 ⟨rfl, rfl⟩))
                        go_ret2
                        rw [← unhide HY2, unhide HP3]
                        exact ⟨rfl, below_dn (unhide HB) _⟩
                      | false =>
                        rw [hb3] at HBL
                        by_cases h59 : c3 = 59
                        · have hq59 : ((c3.toNat : Int) != 59) = false := by rw [h59]; rfl
                          have hch : charP c3 = false := by rw [h59]; rfl
                          have HP3 := hide (hpe.trans ((unhide HNE) hch))
                          clear HYE HNE hb3 hch eask heg hqe0 hel hpe he h59
                          have hqe : (q : Int) ≤ (e : Int) := by have := unhide HE3; omega
                          have hec : (e : Int) ≤ (cap : Int) := by have := unhide HE3; have := unhide HCAP; omega
                          have hncq : ¬ cap = q := by have := unhide HQL; have := unhide HCAP; omega
                          have hbk := fun n => cut_back (cap := cap) ((unhide HR).dn n) (unhide HE3).2.1 (unhide HE3).2.2.1 (unhide HCAP)
                          rw [if_neg hncq] at hbk
                          go_wp2_with (first | (go_at_call 24; refine ((unhide HBL) _).mono ?_; rintro e w1 ⟨rfl, rfl⟩))
                          go_ret2
                          rw [← unhide HY2, unhide HP3]
                          exact ⟨rfl, below_dn (unhide HB) _⟩
                        · have hq59 : ((c3.toNat : Int) != 59) = true := by
                            have := byte_ne c3 59 h59
                            simp only [bne]
                            exact congrArg (!·) this
                          have hch : charP c3 = true := by
                            unfold blankP blanks at hb3
                            unfold charP
                            simp at hb3 ⊢
                            exact ⟨hb3.1, hb3.2.1, hb3.2.2.1, hb3.2.2.2.1, hb3.2.2.2.2, h59⟩
                          have HP3 := hide (hpe.trans ((unhide HYE) hch).2)
                          have hwe : IntKind.i64.wrap ((e : Int) + 1) = (e : Int) + 1 := by have := unhide HS; unfold Short at this; exact wrap_add e 1 (by omega) (by omega)
                          clear HYE HNE hb3 hch eask heg hqe0 hel hpe he h59
                          go_wp2_with (first | (go_at_call 24; refine ((unhide HBL) _).mono ?_; rintro e w1 ⟨rfl, rfl⟩))
                          go_roundg (gk - 1)
                          case measure => have := unhide HE3; omega
                          case rel => exact ⟨e + 1, by go_num, by have := unhide HE3; omega, by have := unhide HE3; omega, by have := unhide HE3; omega, unhide HP3, _, rfl⟩
                    · obtain rfl : e = l.length := by omega
                      have HP3 := hide (hpe.trans (passP_no (p := charP) (l := l) (k := l.length) (by unfold askP; rw [List.getElem?_eq_none (Nat.le_refl _)])))
                      clear heg hqe0 hel hpe he
                      have hqe : (q : Int) ≤ (l.length : Int) := by have := unhide HE3; omega
                      have hec : (l.length : Int) ≤ (cap : Int) := by have := unhide HE3; have := unhide HCAP; omega
                      have hncq : ¬ cap = q := by have := unhide HQL; have := unhide HCAP; omega
                      have hbk := fun n => cut_back (cap := cap) ((unhide HR).dn n) (unhide HE3).2.1 (unhide HE3).2.2.1 (unhide HCAP)
                      rw [if_neg hncq] at hbk
                      go_wp2
                      go_ret2
                      rw [← unhide HY2, unhide HP3, List.take_length]
                      exact ⟨rfl, below_dn (unhide HB) _⟩
              · obtain rfl : q = l.length := by omega
                have HY1 := unhide HY
                rw [if_pos (Nat.le_refl _)] at HY1
                have HY2 := hide HY1
                clear HY1 HY hql hq
                go_wp2_with (first
                | (go_at_call 22; refine ((unhide HBG) _).mono ?_; rintro e w1 ⟨rfl, m1, rfl⟩)
                | (go_at_call 35; have _x := unhide HM2; refine ((unhide HPQ) _).mono ?_; rintro e w1 ⟨rfl, m3, rfl⟩)
                | (go_at_call 35; refine ((unhide HPP) _).mono ?_; rintro e w1 ⟨rfl, m2, rfl⟩; have HM2 := hide True.intro))
                go_ret2
                rw [← unhide HY2]
                exact ⟨rfl, below_dn (unhide HB) _⟩
            · have hq61 : ((l[p].toNat : Int) == 61) = false := byte_ne _ 61 h61
              have HN := hide ((unhide HFN) ((unhide HSP1).trans (by simp; intro h; exact h61 ((low61 _).1 h))))
              clear h61 HSP1
              generalize l[p] = c at hcell hq61
              clear hig hji hil hfi hi e1 hse h7 e7 hfq hm hpl hp
              go_wp2_with (first
                | (go_at_call 22; refine ((unhide HBG) _).mono ?_; rintro e w1 ⟨rfl, m1, rfl⟩)
                | (go_at_call 35; refine ((unhide HPP) _).mono ?_; rintro e w1 ⟨rfl, m2, rfl⟩))
              go_roundg g
              case measure => omega
              case rel => exact ⟨p, rfl, (unhide HPL).1.2, by have := unhide HPL; have := unhide HJ; have := unhide HI; omega, (unhide HN).symm.trans (unhide HJ).2.2, _, rfl⟩
          · obtain rfl : p = l.length := by omega
            have HN := hide ((unhide HFN) (by
              cases hh : seesM l l.length [61] with
              | false => rfl
              | true =>
                have := sees_fits hh (by decide)
                have e1 : ([61] : List UInt8).length = 1 := rfl
                omega))
            clear hig hji hil hfi hi e1 hse h7 e7 hfq hm hpl hp
            go_wp2_with (first
              | (go_at_call 22; refine ((unhide HBG) _).mono ?_; rintro e w1 ⟨rfl, m1, rfl⟩)
              | (go_at_call 35; refine ((unhide HPP) _).mono ?_; rintro e w1 ⟨rfl, m2, rfl⟩))
            go_roundg g
            case measure => omega
            case rel => exact ⟨l.length, rfl, (unhide HPL).1.2, by have := unhide HPL; have := unhide HJ; have := unhide HI; omega, (unhide HN).symm.trans (unhide HJ).2.2, _, rfl⟩
      · have hiz : ¬ (i : Int) < (l.length : Int) := by omega
        have heq : ((i : Int) == (l.length : Int)) = true := by simp; omega
        have HE := hide (contentF_end (l := l) (n := g) (k := j) (by rw [hfi]; have := find_le (x := charsetL) hil; omega))
        clear hig hji hil hfi hi
        go_wp2
        go_ret2
        rw [← (unhide HJ).2.2, unhide HE]
        exact ⟨rfl, below_dn (unhide HB) _⟩
end Go.Proofs.YtmikcdmlhocgbaaDoor
