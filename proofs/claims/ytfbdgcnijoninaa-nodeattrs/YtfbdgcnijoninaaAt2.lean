/-
  NodeAttrs: the walk where the element is made.
-/
import Derived.Test.YtfbdgcnijoninaaAt
namespace Go.Proofs.Ytfbdgcnijoninaa
open Go.RowKit

theorem below_drewM {B : Nat} {a w : World} (h : Below B a w) (n : Nat) : Below B a (w.drewN n) := h.trans ⟨rfl, rfl, rfl, Nat.le_refl _, fun _ _ => rfl⟩

theorem kept_both {w3 w4 w5 w6 : World} (hb4 : Below w3.heap.size w3 w4) (s5 : w5.heap.size = w4.heap.size + 1) (hk : ∀ k, w3.heap.size ≤ k → k < w5.heap.size → w6.heap[k]? = w5.heap[k]?) {ao : Option Addr} {L : List AttrM} {v : Value} (hin : AttrsIn w5 ao L)
    (hfr : ∀ b off, ao = some ⟨b, off, none⟩ → w3.heap.size ≤ b) (e5 : w5.cell? ⟨w4.heap.size, 3, none⟩ = some v) : AttrsIn w6 ao L ∧ w6.cell? ⟨w4.heap.size, 3, none⟩ = some v := by
  refine ⟨hin.kept (fun b off e hlt => hk b (hfr b off e) hlt), ?_⟩
  have hs := hk w4.heap.size hb4.size (by omega)
  rw [← e5]
  simp only [World.cell?, hs]

theorem erase_at {L : List AttrM} {A i : Nat} {y : AttrM} (h : (L.eraseIdx A)[i]? = some y) : L[if i < A then i else i + 1]? = some y := by
  rw [List.getElem?_eraseIdx] at h
  split at h
  · rw [if_pos (by assumption)]; exact h
  · rw [if_neg (by assumption)]; exact h

theorem st_first {w w1 w2 : World} {x : AttrM} {bA : Nat} {l : List AttrM} {av : Value} {F : Nat → Prop} (hb1 : Below (w.alloc (boxO x)).heap.size (w.alloc (boxO x)) w1) (hF : ∀ k, F k → (w.alloc (boxO x)).heap.size ≤ k)
    (hu : Upd F w1 w2 (w.heap.size + 1) bA ([blankM 0] ++ [elemN 0 ⟨#[112]⟩ l av])) : St w x w2 bA l w2.heap.size := by
  obtain ⟨hb2, F2, h2, hF2⟩ := hu.below hb1 hF
  simp only [show (w.alloc (boxO x)).heap.size = w.heap.size + 1 by simp] at hb2 hF2
  have h1 : One w2 (w.heap.size + 1) bA l F2 := ⟨_, elemN 0 ⟨#[112]⟩ l av, h2, rfl, rfl, rfl⟩
  exact ⟨hb2, F2, h1, fun k hk => ⟨hF2 k hk, h1.lt hk⟩⟩

set_option maxHeartbeats 2000000 in
theorem attrs_ok {w : World} (a : Option Addr) (cap : Nat) (l : List AttrM) (hl : AttrsIn w a l) (x : AttrM) (hlong : longE ⟨#[112]⟩ l = false) :
    Calls Try.prog 9 #[.slice a l.length cap, x.agg] w fun e w' => e = .returned (.bool true) ∧ Below w.heap.size w w' := by
  have hlen : l.length ≤ 1024 := by simp [longE] at hlong; omega
  have HN := hide (new_some (w.alloc (boxO x)) (w.heap.size + 1) (by simp))
  have HC := hide (fun (w1 : World) base bA F (h1 : ArS w1 base bA [blankM 0] F) (hl1 : AttrsIn w1 a l) => element_plain h1 0 ⟨#[112]⟩ a cap l hl1 (.inr (.inr ⟨rfl, pname⟩)) hlong (by simp))
  have HL := hide hl
  have HB0 := hide ((Below.refl _ w).alloc (Nat.le_refl _) (boxO x))
  clear hl hlong
  unfold AttrM.agg
  set_option maxRecDepth 10000 in go_enter Try.func9, Try.ntmps9
  go_wp2_with fail
  refine (unhide HN).mono ?_
  rintro e w1 ⟨F, bA, rfl, h1, hb1, hF⟩
  have HC1 := hide ((unhide HC) w1 _ _ F h1 ((unhide HL).below ((unhide HB0).trans (hb1.mono (unhide HB0).size))))
  have HB1 := hide hb1
  have HF := hide hF
  clear h1 hb1 hF HC HN HB0
  go_wp2_with fail
  refine (unhide HC1).mono ?_
  rintro e w2 ⟨rfl, av, hu⟩
  have hst := st_first (unhide HB1) (unhide HF) hu
  have HL2 := hide ((unhide HL).below hst.out)
  have HST := hide hst
  clear hu hst HC1 HF HB1 HL
  go_wp2_with fail
  go_loopw [9, 8] (fun i m wr => ∃ k A : Nat, k ≤ l.length ∧ i = .int .i64 ((k : Int) - 1) ∧ m = .int .i64 A ∧ A ≤ l.length ∧ IsAt (sameKey x.space x.name) l k A ∧ Below w2.heap.size w2 wr) (fun i _ _ => (intOf i + 1).toNat)
  case atStart => exact ⟨l.length, l.length, Nat.le_refl _, rfl, rfl, Nat.le_refl _, isAt_end _ _, Below.refl _ _⟩
  case round =>
    obtain ⟨k, A, hk, rfl, rfl, hA, hat, hb⟩ := hrel
    cases k with
    | zero =>
      have hs2 := (unhide HST).below hb
      obtain ⟨d0, d1, d2, d3⟩ := box_cells hs2.bel
      have hset := st_set hs2 A hat hlen hA
      unfold AttrM.agg at hset
      have HS := hide hset
      clear hset hat HL2 HST hb hs2
      go_wp2_with fail
      refine (unhide HS).mono ?_
      rintro e w3 (⟨rfl, hs3⟩ | ⟨rfl, L, hok, hs3⟩)
      · have HN := hide (st_node hs3)
        clear hs3 d0 d1 d2 d3 HS
        go_wp2_with fail
        refine (unhide HN).mono ?_
        rintro e w4 ⟨n, ao, cp, rfl, hs4, hb4, hin, hfr⟩
        have HB := hide (fun o => (hs4.below ((Below.refl _ _).alloc (Nat.le_refl _) o)).out)
        clear hs4 hb4 hin hfr HN
        simp only [nodeV, NodeM.cells]
        go_wp2
        go_ret
        exact ⟨rfl, unhide HB _⟩
      · have HN := hide (st_node hs3)
        have HOK := hide hok
        clear hs3 d0 d1 d2 d3 HS hok
        go_wp2_with fail
        refine (unhide HN).mono ?_
        rintro e w4 ⟨n, ao, cp, rfl, hs4, hb4, hin, hfr⟩
        simp only [nodeV, NodeM.cells]
        have ha5 := fun o => (Below.refl w4.heap.size w4).alloc (Nat.le_refl _) o
        have H5 := hide (fun o => hs4.below (ha5 o))
        have HI5 := hide (fun o => hin.below (ha5 o))
        have HFR := hide hfr
        have HB4 := hide hb4
        clear ha5 hs4 hin hfr hb4 HN
        go_wp2_with fail
        generalize hw5 : World.alloc w4 _ = w5
        have e5 : w5.cell? ⟨w4.heap.size, 3, none⟩ = some (.slice ao L.length cp) := by rw [← hw5]; simp
        have s5 : w5.heap.size = w4.heap.size + 1 := by rw [← hw5]; simp
        have H5' := hide (hw5 ▸ unhide H5 _)
        have HI5' := hide (hw5 ▸ unhide HI5 _)
        clear hw5 H5 HI5
        obtain ⟨d0, d1, d2, d3⟩ := box_cells (unhide H5').bel
        obtain ⟨z, hz, v1, v2, v3⟩ := (unhide HOK).hit
        have hLlen := (unhide HOK).len
        have hLfew := (unhide HOK).few
        obtain ⟨b, off, e, c0, c1, c2, c3⟩ := (unhide HI5').cells A z hz
        subst e
        rw [v3] at c0
        rw [v1] at c3
        have hAL : A < L.length := by omega
        have f1 : ((L.length : Int) != if (l.length : Int) < (A : Int) + 1 then (A : Int) + 1 else (l.length : Int)) = false := by
          rw [bne_eq_false_iff_eq]; split <;> omega
        clear hz v1 v3 c1 hLlen
        have HD := hide (fun n => st_del ((unhide H5').below (below_drewM (Below.refl _ _) n)) (unhide HOK))
        set_option maxRecDepth 20000 in go_quiet (fail)
        generalize (if (l.length : Int) < (A : Int) + 1 then (A : Int) + 1 else (l.length : Int)) = mx
        clear f1 c0 c2 c3 v2
        go_wp2_with fail
        refine (unhide HD _).mono ?_
        rintro e w6 ⟨rfl, hs6, hkeep⟩
        obtain ⟨hi6, e6⟩ := kept_both (unhide HB4) s5 hkeep (unhide HI5') (unhide HFR) e5
        have s6 : w4.heap.size < w6.heap.size := World.block_lt_of_cell? w6 _ e6
        have HI6 := hide hi6
        have HN6 := hide (st_node hs6)
        clear hs6 hkeep hi6 HD HI5' HFR HB4 H5' e5 s5 d0 d1 d2 d3
        go_wp2_with fail
        refine (unhide HN6).mono ?_
        rintro e w7 ⟨m, am, cm, rfl, hs7, hb7, hin7, hfr7⟩
        have s7 := hb7.size
        have e7 := (hb7.cell (p := ⟨w4.heap.size, 3, none⟩) s6).trans e6
        have HI7 := hide ((unhide HI6).below hb7)
        have ha8 := fun o => (Below.refl w7.heap.size w7).alloc (Nat.le_refl _) o
        have H8 := hide (fun o => (hs7.below (ha8 o)).out)
        have HI8 := hide (fun o => (unhide HI7).below (ha8 o))
        have HM8 := hide (fun o => hin7.below (ha8 o))
        have E8 := hide (fun o => ((ha8 o).cell (p := ⟨w4.heap.size, 3, none⟩) (by simp; omega)).trans e7)
        simp only [nodeV, NodeM.cells]
        have lt47 : w4.heap.size < w7.heap.size := by omega
        clear hs7 hb7 hin7 hfr7 HN6 HI6 HI7 ha8 e6
        have hM : (L.eraseIdx A).length = L.length - 1 := by rw [List.length_eraseIdx, if_pos hAL]
        have f2 : (((L.eraseIdx A).length : Int) != (L.length : Int) - 1) = false := by
          rw [bne_eq_false_iff_eq]; omega
        have HER := hide (fun i y => @erase_at L A i y)
        generalize L.eraseIdx A = M at *
        have HML := hide (show L.length = M.length + 1 by omega)
        clear hM
        go_wp2_with fail
        generalize hw8 : World.alloc w7 _ = w8
        have m8 : w8.cell? ⟨w7.heap.size, 3, none⟩ = some (.slice am M.length cm) := by rw [← hw8]; simp
        have n8 : w8.cell? ⟨w4.heap.size, 3, none⟩ = some (.slice (some ⟨b, off, none⟩) L.length cp) := hw8 ▸ unhide E8 _
        have H8' := hide (hw8 ▸ unhide H8 _)
        have HI8' := hide (hw8 ▸ unhide HI8 _)
        have HM8' := hide (hw8 ▸ unhide HM8 _)
        have l8 : w7.heap.size < w8.heap.size := by rw [← hw8]; simp
        clear hw8 H8 HI8 HM8 E8 e7 f2
        go_loopw [15, 16] (fun i _ wr => ∃ k : Nat, k ≤ M.length ∧ i = .int .i64 k ∧ Below w8.heap.size w8 wr) (fun i _ _ => M.length - (intOf i).toNat)
        case atStart => exact ⟨0, Nat.zero_le _, rfl, Below.refl _ _⟩
        case round =>
          obtain ⟨k, hkM, rfl, hb8⟩ := hrel
          have mr := (hb8.cell (p := ⟨w7.heap.size, 3, none⟩) l8).trans m8
          have nr := (hb8.cell (p := ⟨w4.heap.size, 3, none⟩) (by simp; omega)).trans n8
          by_cases hkl : k < M.length
          · obtain ⟨y, hy⟩ : ∃ y, M[k]? = some y := ⟨_, List.getElem?_eq_getElem hkl⟩
            have hyL := (unhide HER) k y hy
            obtain ⟨bm, offm, e, p0, p1, p2, p3⟩ := ((unhide HM8').below hb8).cells k y hy
            subst e
            have HB8 := hide hb8
            have hkL : k < L.length := by have := unhide HML; omega
            have hkL1 : k + 1 < L.length := by have := unhide HML; omega
            by_cases hkA : k < A
            · rw [if_pos hkA] at hyL
              obtain ⟨_, _, e, q0, q1, q2, q3⟩ := ((unhide HI8').below hb8).cells k y hyL
              injection e with e
              injection e with e1 e2
              subst e1 e2
              clear hb8 hyL hy HER HI8' HM8' H8' m8 n8
              go_wp2
              set_option maxRecDepth 20000 in go_quiet (fail)
              go_wp2
              go_roundw
              case rel => exact ⟨k + 1, by omega, by go_num, below_drewM (unhide HB8) _⟩
              case measure => simp [intOf]; omega
            · rw [if_neg hkA] at hyL
              obtain ⟨_, _, e, q0, q1, q2, q3⟩ := ((unhide HI8').below hb8).cells (k + 1) y hyL
              injection e with e
              injection e with e1 e2
              subst e1 e2
              clear hb8 hyL hy HER HI8' HM8' H8' m8 n8
              go_wp2
              set_option maxRecDepth 20000 in go_quiet (fail)
              go_wp2
              go_roundw
              case rel => exact ⟨k + 1, by omega, by go_num, below_drewM (unhide HB8) _⟩
              case measure => simp [intOf]; omega
          · obtain rfl : k = M.length := by omega
            have HB8 := hide ((unhide H8').trans (hb8.mono (unhide H8').size))
            clear hb8 HER HI8' HM8' H8' m8 n8
            go_wp2_with (go_at_call 17; refine (awake_any _).mono ?_; rintro e w9 ⟨rfl, hb9⟩)
            go_ret
            exact ⟨rfl, (unhide HB8).trans (hb9.mono (unhide HB8).size)⟩
    | succ k =>
      have ek : ((k + 1 : Nat) : Int) - 1 = k := by omega
      rw [ek]
      obtain ⟨y, hy⟩ : ∃ y, l[k]? = some y := ⟨_, List.getElem?_eq_getElem (by omega)⟩
      obtain ⟨b, off, e, c0, c1, c2, c3⟩ := ((unhide HL2).below hb).cells k y hy
      subst e
      obtain ⟨d0, d1, d2, d3⟩ := box_cells ((unhide HST).below hb).bel
      have HAT := hide hat
      have HB := hide hb
      clear hat HL2 hb HST
      cases t1 : y.space == x.space with
      | false =>
        have HP := hide ((unhide HAT).miss hy (by simp [sameKey, t1]))
        clear HAT hy
        go_wp2
        go_quiet (fail)
        go_wp2
        go_roundw
        case rel => exact ⟨k, A, by omega, by go_num, rfl, hA, unhide HP, below_drewM (unhide HB) _⟩
        case measure => simp [intOf]
      | true =>
        cases t2 : y.name.toList == x.name.toList with
        | false =>
          have HP := hide ((unhide HAT).miss hy (by simp [sameKey, t1, t2]))
          clear HAT hy
          go_wp2
          go_quiet (fail)
          go_wp2
          go_roundw
          case rel => exact ⟨k, A, by omega, by go_num, rfl, hA, unhide HP, below_drewM (unhide HB) _⟩
          case measure => simp [intOf]
        | true =>
          have HP := hide (IsAt.hit (p := sameKey x.space x.name) hy (by simp [sameKey, t1, t2]))
          clear HAT hy
          go_wp2
          go_quiet (fail)
          go_wp2
          go_roundw
          case rel => exact ⟨k, k, by omega, by go_num, rfl, by omega, unhide HP, below_drewM (unhide HB) _⟩
          case measure => simp [intOf]
end Go.Proofs.Ytfbdgcnijoninaa
