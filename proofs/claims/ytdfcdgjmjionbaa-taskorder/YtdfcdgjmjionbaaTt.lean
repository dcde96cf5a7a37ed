/-
  TaskOrder's walk.
-/
import Derived.Test.YtdfcdgjmjionbaaTs
namespace Go.Proofs.Ytdfcdgjmjionbaa
open Go.RowKit Go.Lib

/-- The source of a number. -/
def srcF (l : List Int) (k : Nat) : Nat := ((l.getD k 0).tmod 4).toNat
theorem srcF_lt (l : List Int) (h : ∀ x ∈ l, 0 ≤ x ∧ x ≤ 255) (k : Nat) (v : Int) (hv : l[k]? = some v) : srcF l k < 4 ∧ v.tmod 4 = (srcF l k : Int) ∧ 0 ≤ v := by
  have hvr := h v (List.mem_of_getElem? hv)
  have h1 := Int.tmod_nonneg 4 hvr.1
  have h2 := Int.tmod_lt_of_pos v (show (0 : Int) < 4 by omega)
  have e : l.getD k 0 = v := by simp [List.getD, hv]
  unfold srcF
  rw [e]
  exact ⟨by omega, by omega, hvr.1⟩
def intsA (l : List Int) : Array Value := (l.map fun x => Value.int .i64 x).toArray
theorem four (l : List Int) (h : l.length = 4) : ∃ a b c d, l = [a, b, c, d] := by
  match l, h with
  | [a, b, c, d], _ => exact ⟨a, b, c, d, rfl⟩

set_option maxRecDepth 20000 in
set_option maxHeartbeats 2000000 in
theorem order_walk (l : List Int) (a : Option Addr) (cap : Nat) (l1 : List Int) (a1 : Option Addr) (cap1 : Nat) (w : World) (hin : RowIn w (fun _ => True) a (bytesV l) ∧ ∀ x ∈ l, 0 ≤ x ∧ x ≤ 255) (_hlen : l.length ≤ 140737488351232) (hin1 : RowIn w (fun _ => True) a1 (intsV l1)) (_hlen1 : l1.length ≤ 140737488351232) :
    Calls Try.prog 4 #[.slice a l.length cap, .slice a1 l1.length cap1] w fun e w' => e = .returned (.bool true) ∧ Below w.heap.size w w' := by
  obtain ⟨n, N, hn2, hnN, hnl, hmin⟩ : ∃ (n : Nat) (N : Int), n ≤ 2000 ∧ N = (n : Int) ∧ n ≤ l.length ∧ (if (2000 : Int) < (l.length : Int) then (2000 : Int) else (l.length : Int)) = N := ⟨min l.length 2000, ((min l.length 2000 : Nat) : Int), by omega, rfl, by omega, by split <;> omega⟩
  have HIN := hide hin
  have HIN1 := hide hin1
  have HN := hide (And.intro hn2 (And.intro hnN hnl))
  have hN0 : 0 ≤ N := by omega
  have hN1 : N ≤ 2000 := by omega
  clear hin hin1 hn2 hnN hnl
  go_enter Try.func4, Try.ntmps4
  go_wp2_with (go_at_call 9; fail)
  refine (new_any _ _ (Nat.le_refl _)).mono ?_
  rintro e w1 ⟨bq, F, rfl, hq, hb, hF⟩
  have HQ := hide hq
  have HB1 := hide hb
  clear hq hb hF
  go_wp2
  go_loopg [7] n (fun k s7 wx => ∃ (i : Nat) (z : Int) (F : Nat → Prop) (ks : List (List Nat)), s7 = .int .i64 z ∧ i + k = n ∧ z = (i : Int) ∧ Below w.heap.size w wx ∧ QueS wx w.heap.size bq (jobsQ ks) F ∧ Inv (srcF l) [-1, -1, -1, -1] i i ks)
  case atStart => exact ⟨0, 0, F, [[], [], [], []], rfl, by omega, rfl, unhide HB1, unhide HQ, Inv.first _⟩
  case round =>
    obtain ⟨i, z, F, ks, rfl, hik, hz, hb, hq, hinv⟩ := hrel
    have HBX := hide hb
    have HQX := hide hq
    have HINV := hide hinv
    clear hb hq hinv
    by_cases him : i < n
    · obtain ⟨v, hv⟩ : ∃ v, l[i]? = some v := ⟨_, List.getElem?_eq_getElem (by have := (unhide HN).2.2; omega)⟩
      obtain ⟨b, off, rfl, _, hc0⟩ := (unhide HIN).1 i (.int .u8 v) (by unfold bytesV; rw [List.getElem?_map, hv]; rfl)
      have hbl : b < w.heap.size := World.block_lt_of_cell? w _ hc0
      have hc := ((unhide HBX).cell (p := ⟨b, off + i, none⟩) hbl).trans hc0
      have HS : Hid (∀ W', Mod (fun k => w.heap.size ≤ k) wr W' → W'.cell? ⟨b, off + i, none⟩ = some (.int .u8 v)) := hide fun W' hm => by
        rw [World.cell?_of_block (hm.block b (Nat.lt_of_lt_of_le hbl (unhide HBX).size) (by show ¬ w.heap.size ≤ b; omega))]
        exact hc
      obtain ⟨hn4, hn, hv0⟩ := srcF_lt l (unhide HIN).2 i v hv
      obtain ⟨S, hS⟩ : ∃ S : Int, S = (srcF l i : Int) := ⟨_, rfl⟩
      rw [← hS] at hn
      have hzl : z < (l.length : Int) := by have := (unhide HN).2.2; omega
      have hz1 : z < N := by have := (unhide HN).2.1; omega
      have hz0 : 0 ≤ z := by omega
      have hzt : z.toNat = i := by omega
      have hS0 : 0 ≤ S := by omega
      have hS1 : S < 4 := by omega
      obtain ⟨hp1, hp2⟩ := (unhide HINV).post (by have := (unhide HN).1; omega) hn4
      have HINV2 := hide hp2
      have HP1 : Hid (∀ W2 (x : TkV), Mod (fun k => w.heap.size ≤ k) wr W2 → QueS W2 w.heap.size bq (jobsQ ks) F → TkIn W2 (fun k => wr.heap.size ≤ k) (tkJob z) x → ∀ W, Below W2.heap.size W2 W → Calls Try.prog 11 #[.pointer (some ⟨bq, 0, none⟩), .int .i64 (IntKind.i64.wrap S), x.val] W fun e w' => e = .returned (.int .i64 0) ∧ ∃ F', QueS w' w.heap.size bq (jobsQ (ks.set (srcF l i) (ks.getD (srcF l i) [] ++ [i]))) F' ∧ Mod (fun k => w.heap.size ≤ k) wr w') :=
        hide fun W2 x hm hq hx W hb => by
          rw [show IntKind.i64.wrap S = S from wrap_fit _ (by omega) (by omega), hS]
          refine (post_any (hq.below hb) (Nat.le_trans (unhide HBX).size (Nat.le_trans hm.size hb.size)) (srcF l i) (tkJob z) x (hx.below hb)).mono ?_
          rw [hz, hp1]
          rintro e w3 ⟨rfl, F', h1, h2, h3⟩
          exact ⟨rfl, F', h1, (hm.trans (Mod.of_below hb)).then h2 (fun k hk => .inl (hq.lt k hk).1)⟩
      have HZ := hide hz
      have HIK := hide hik
      have HIM := hide him
      clear hik him hz hv hn4 hS hp1 hp2 hc0 hbl
      go_wp2_with fail
      go_region_held3 (fun W' => W'.cell? ⟨b, off + i, none⟩ = some (.int .u8 v))
        (first | exact (unhide HS) _ (unhide M3) | exact (unhide HS) _ (unhide M3).drew | exact (unhide HS) _ (unhide M2) | exact (unhide HS) _ (unhide M2).drew | exact (unhide HS) _ (Mod.refl _ _) | exact (unhide HS) _ (Mod.refl _ _).drew) (first
        | (go_at_call 12; refine (job_any _ _).mono ?_; rintro e w2 ⟨x, rfl, hb, hx⟩; have hb2 := hb.mono (B := wr.heap.size) (Nat.le_refl _); have hb3 : Below wr.heap.size wr w2 := (by first | exact hb2 | exact (Below.refl _ wr).drew.trans hb2); have M2 : Hid (Mod (fun k => w.heap.size ≤ k) wr w2) := hide (Mod.of_below hb3); have HQ2 : Hid (QueS w2 w.heap.size bq (jobsQ ks) F) := hide ((unhide HQX).below hb3); have HX : Hid (TkIn w2 (fun k => wr.heap.size ≤ k) (tkJob z) x) := hide hx; clear hb hb2 hb3 hx)
        | (go_at_call 11; refine (unhide HP1 w2 x (unhide M2) (unhide HQ2) (unhide HX) _ ?_).mono ?_; (first | exact Below.refl _ w2 | exact (Below.refl _ w2).drew); rintro e w3 ⟨rfl, F', hq, hm⟩; have M3 : Hid (Mod (fun k => w.heap.size ≤ k) wr w3) := hide hm; have HQ3 := hide hq; clear hq hm))
      go_wp2
      go_roundg (gk - 1)
      case measure => have := unhide HIK; have := unhide HIM; omega
      case rel => exact ⟨i + 1, _, F', _, by go_num, by have := unhide HIK; have := unhide HIM; omega, by have := unhide HZ; omega, (((Mod.of_below (unhide HBX)).trans (unhide M3)).below (Nat.le_refl _) (fun k hk => hk)), unhide HQ3, unhide HINV2⟩
    · have hin' : i = n := by omega
      obtain rfl : z = N := by rw [(unhide HN).2.1]; omega
      rw [hin'] at HINV
      have hq0 := unhide HQX
      have hbqlt : ∀ k, F k → k < wr.heap.size := fun k hk => (hq0.lt k hk).2
      have HF := hide hbqlt
      clear him hik hz hin' hq0 hbqlt
      obtain ⟨lb, hlb⟩ : ∃ lb, wr.heap.size = lb := ⟨_, rfl⟩
      have HLB : Hid (w.heap.size ≤ lb) := hide (by rw [← hlb]; exact (unhide HBX).size)
      rw [hlb] at HF
      have HROW0 := hide (heap_alloc_new wr (.cells #[.int .i64 (-1), .int .i64 (-1), .int .i64 (-1), .int .i64 (-1)] 3))
      rw [hlb] at HROW0
      have HB0 : Hid (Below w.heap.size w (wr.alloc (.cells #[.int .i64 (-1), .int .i64 (-1), .int .i64 (-1), .int .i64 (-1)] 3))) := hide ((unhide HBX).trans ((below_new wr _).mono (unhide HBX).size))
      have HQ0 : Hid (QueS (wr.alloc (.cells #[.int .i64 (-1), .int .i64 (-1), .int .i64 (-1), .int .i64 (-1)] 3)) w.heap.size bq (jobsQ ks) F) := hide ((unhide HQX).below (below_new wr _))
      go_wp2

      clear HQX HBX
      generalize wr.alloc (.cells #[.int .i64 (-1), .int .i64 (-1), .int .i64 (-1), .int .i64 (-1)] 3) = wA at *
      go_loopg [9, 10, 11, 12, 13, 14] n (fun k s9 s10 s11 s12 s13 s14 wx => ∃ (i : Nat) (y : Int) (ks : List (List Nat)) (last : List Int), s9 = .int .i64 y ∧ i + k = n ∧ y = (i : Int) ∧ Below w.heap.size w wx ∧ QueS wx w.heap.size bq (jobsQ ks) F ∧ last.length = 4 ∧ wx.heap[lb]? = some (.cells (intsA last) 3 (0, 0)) ∧ Inv (srcF l) last n k ks)
      case atStart => exact ⟨0, 0, ks, [-1, -1, -1, -1], rfl, by omega, rfl, unhide HB0, unhide HQ0, rfl, unhide HROW0, unhide HINV⟩
      case round =>
        obtain ⟨i, y, ks, last, rfl, hik, hz, hb, hq, hll, hrow, hinv⟩ := hrel
        have HBX := hide hb
        have HQ2 := hide hq
        have HLL := hide hll
        have HROW := hide hrow
        by_cases him : i < n
        · obtain ⟨r, rfl⟩ : ∃ r, gk = r + 1 := ⟨gk - 1, by omega⟩
          have HINV := hide hinv
          have hyz : y < z := by rw [(unhide HN).2.1]; omega
          have hy0 : 0 ≤ y := by omega
          have hyt : y.toNat = i := by omega
          have HZ := hide hz
          have HIK := hide hik
          have HIM := hide him
          clear hb hq hll hrow hinv
          by_cases hl1 : i < l1.length
          · obtain ⟨p, hp⟩ : ∃ p, l1[i]? = some p := ⟨_, List.getElem?_eq_getElem hl1⟩
            obtain ⟨b1, off1, rfl, _, hc0⟩ := (unhide HIN1) i (.int .i64 p) (by unfold intsV; rw [List.getElem?_map, hp]; rfl)
            have hc1 := ((unhide HBX).cell (p := ⟨b1, off1 + i, none⟩) (World.block_lt_of_cell? w _ hc0)).trans hc0
            have hl2 : y < (l1.length : Int) := by omega
            obtain ⟨k', s', l', hn1, hn2, hn3, hn4, hn5, hn6⟩ := (unhide HINV).next (unhide HLL) p
            obtain ⟨v, hv⟩ : ∃ v, l[k']? = some v := ⟨_, List.getElem?_eq_getElem (by have := (unhide HN).2.2; omega)⟩
            obtain ⟨_, hvt, hv0⟩ := srcF_lt l (unhide HIN).2 k' v hv
            obtain ⟨b, off, hae, _, hcs⟩ := (unhide HIN).1 k' (.int .u8 v) (by unfold bytesV; rw [List.getElem?_map, hv]; rfl)
            subst hae
            have hcb : b < w.heap.size := World.block_lt_of_cell? w _ hcs
            obtain ⟨S, hS⟩ : ∃ S : Int, S = (s' : Int) := ⟨_, rfl⟩
            obtain ⟨K, hK⟩ : ∃ K : Int, K = (k' : Int) := ⟨_, rfl⟩
            obtain ⟨LS, hLS⟩ : ∃ LS : Int, last.getD s' 0 = LS := ⟨_, rfl⟩
            rw [hn4, ← hS] at hvt
            have hS0 : 0 ≤ S := by omega
            have hS1 : S < 4 := by omega
            have hS2 : ¬ 3 < S := by omega
            have hK0 : 0 ≤ K := by omega
            have hK1 : K < z := by rw [(unhide HN).2.1]; omega
            have hK2 : ¬ z ≤ K := by omega
            have hK3 : K < (l.length : Int) := by have := (unhide HN).2.2; omega
            have hK4 : ¬ K ≤ LS := by omega
            have HNX : Hid (nextM (jobsQ ks) p = some (tkJob k', s', jobsQ (ks.set s' l')) ∧ S = (s' : Int) ∧ K = (k' : Int)) := hide ⟨hn1, hS, hK⟩
            have HINV2 := hide hn6
            have HSC : Hid (∀ W, Mod F wr W → W.cell? ⟨b, off + K.toNat, none⟩ = some (.int .u8 v)) := hide fun W hm => by
              have h1 := ((unhide HBX).cell (p := ⟨b, off + k', none⟩) hcb).trans hcs
              rw [show K.toNat = k' by omega, World.cell?_of_block (hm.block b (Nat.lt_of_lt_of_le hcb (unhide HBX).size) (fun h => by have := ((unhide HQ2).lt b h).1; omega))]
              exact h1
            have HLS : Hid ((intsA last)[S.toNat]? = some (.int .i64 LS)) := hide (by
              have h4 : s' < last.length := by rw [unhide HLL]; exact hn2
              rw [show S.toNat = s' by omega, ← hLS]
              unfold intsA
              rw [List.getElem?_toArray, List.getElem?_map]
              simp [List.getD, List.getElem?_eq_getElem h4])
            have HSET : Hid (some (Obj.cells ((intsA last).setIfInBounds S.toNat (.int .i64 K)) 3 (0, 0)) = some (.cells (intsA (last.set s' K)) 3 (0, 0))) := hide (by
              rw [show S.toNat = s' by omega]
              unfold intsA
              rw [List.setIfInBounds_toArray, List.map_set])
            clear hn1 hn2 hn3 hn4 hn5 hn6 hv hcs hcb hS hK hLS
            clear hik him hz hl1 hp hc0
            go_wp2_with (go_at_call 14; fail)
            refine (next_any (unhide HQ2) _).mono ?_
            unfold NextA
            rw [(unhide HNX).1]
            rintro e w2 ⟨⟨x0, x1, x2, x3, x4, x5, x6⟩, rfl, hq, hx, hm⟩
            rw [← (unhide HNX).2.1]
            have HM2 : Hid (Mod F wr w2) := hide hm
            have HQ3 := hide hq
            have HX2 := hide hx
            clear hq hx hm
            simp only [TkV.val, TkV.cells]
            go_wp2_with (go_at_call 16; fail)
            refine (number_any _ ⟨x0, x1, x2, x3, x4, x5, x6⟩ _ ((unhide HX2).below (below_new w2 _))).mono ?_
            rw [numT_job, ← (unhide HNX).2.2]
            rintro e w3 ⟨rfl, hb⟩
            have HM3 : Hid (Mod F wr w3) := hide ((unhide HM2).trans (Mod.of_below ((below_new w2 (.cells #[.int .i64 x0, .slice x1 x2 x3, .slice x4 x5 x6] 34)).trans (hb.mono (by simp)))))
            have HQ4 : Hid (QueS w3 w.heap.size bq (jobsQ (ks.set s' l')) F) := hide ((unhide HQ3).below ((below_new w2 (.cells #[.int .i64 x0, .slice x1 x2 x3, .slice x4 x5 x6] 34)).trans (hb.mono (by simp))))
            have hrow3 : w3.heap[lb]? = some (.cells (intsA last) 3 (0, 0)) := ((unhide HM3).block lb (lt_of_block (unhide HROW)) (fun h => by have := (unhide HF) lb h; omega)).trans (unhide HROW)
            have HROW3 := hide hrow3
            have k0 : w3.cell? ⟨b, off + K.toNat, none⟩ = some (.int .u8 v) := (unhide HSC) w3 (unhide HM3)
            have k1 : w3.cell? ⟨lb, S.toNat, none⟩ = some (.int .i64 LS) := (cell_of_row _ _ _ _ _ _ hrow3).trans (unhide HLS)
            have kf : w3.frozen? ⟨lb, S.toNat, none⟩ = false := by simp [World.frozen?, hrow3]
            clear hb hrow3
            go_wp2
            have HR5 := hide (heap_setCell_same w3 lb S.toNat _ _ (.int .i64 K) (unhide HROW3))
            have HM5 : Hid (Mod (fun k => F k ∨ k = lb) wr (w3.setCell ⟨lb, S.toNat, none⟩ (.int .i64 K))) := hide ((((unhide HM3).mono (fun k _ h => .inl h))).trans (Mod.setCell w3 ⟨lb, S.toNat, none⟩ (.int .i64 K) (.inr rfl)))
            have HQ5 : Hid (QueS (w3.setCell ⟨lb, S.toNat, none⟩ (.int .i64 K)) w.heap.size bq (jobsQ (ks.set s' l')) F) := hide ((unhide HQ4).mod (Mod.setCell (F := (· = lb)) w3 ⟨lb, S.toNat, none⟩ (.int .i64 K) rfl) (fun k h1 h2 => by have := (unhide HF) k h1; omega))
            go_roundg r
            case measure => omega
            case rel => exact ⟨i + 1, _, _, last.set s' K, by go_num, by have := unhide HIK; have := unhide HIM; omega, by have := unhide HZ; omega, (((Mod.of_below (unhide HBX)).trans ((unhide HM5).mono (G := fun k => w.heap.size ≤ k) (fun k _ h => h.elim (fun h => ((unhide HQ2).lt k h).1) (fun h => by have := unhide HLB; omega)))).below (Nat.le_refl _) (fun k hk => hk)), unhide HQ5, by rw [List.length_set]; exact unhide HLL, (unhide HR5).trans (unhide HSET), by have := (unhide HINV2); rw [(unhide HNX).2.2]; exact this⟩
          · obtain ⟨p, hp⟩ : ∃ p : Int, p = 0 := ⟨0, rfl⟩
            have hl2 : ¬ y < (l1.length : Int) := by omega
            obtain ⟨k', s', l', hn1, hn2, hn3, hn4, hn5, hn6⟩ := (unhide HINV).next (unhide HLL) p
            obtain ⟨v, hv⟩ : ∃ v, l[k']? = some v := ⟨_, List.getElem?_eq_getElem (by have := (unhide HN).2.2; omega)⟩
            obtain ⟨_, hvt, hv0⟩ := srcF_lt l (unhide HIN).2 k' v hv
            obtain ⟨b, off, hae, _, hcs⟩ := (unhide HIN).1 k' (.int .u8 v) (by unfold bytesV; rw [List.getElem?_map, hv]; rfl)
            subst hae
            have hcb : b < w.heap.size := World.block_lt_of_cell? w _ hcs
            obtain ⟨S, hS⟩ : ∃ S : Int, S = (s' : Int) := ⟨_, rfl⟩
            obtain ⟨K, hK⟩ : ∃ K : Int, K = (k' : Int) := ⟨_, rfl⟩
            obtain ⟨LS, hLS⟩ : ∃ LS : Int, last.getD s' 0 = LS := ⟨_, rfl⟩
            rw [hn4, ← hS] at hvt
            have hS0 : 0 ≤ S := by omega
            have hS1 : S < 4 := by omega
            have hS2 : ¬ 3 < S := by omega
            have hK0 : 0 ≤ K := by omega
            have hK1 : K < z := by rw [(unhide HN).2.1]; omega
            have hK2 : ¬ z ≤ K := by omega
            have hK3 : K < (l.length : Int) := by have := (unhide HN).2.2; omega
            have hK4 : ¬ K ≤ LS := by omega
            have HNX : Hid (nextM (jobsQ ks) p = some (tkJob k', s', jobsQ (ks.set s' l')) ∧ S = (s' : Int) ∧ K = (k' : Int)) := hide ⟨hn1, hS, hK⟩
            have HINV2 := hide hn6
            have HSC : Hid (∀ W, Mod F wr W → W.cell? ⟨b, off + K.toNat, none⟩ = some (.int .u8 v)) := hide fun W hm => by
              have h1 := ((unhide HBX).cell (p := ⟨b, off + k', none⟩) hcb).trans hcs
              rw [show K.toNat = k' by omega, World.cell?_of_block (hm.block b (Nat.lt_of_lt_of_le hcb (unhide HBX).size) (fun h => by have := ((unhide HQ2).lt b h).1; omega))]
              exact h1
            have HLS : Hid ((intsA last)[S.toNat]? = some (.int .i64 LS)) := hide (by
              have h4 : s' < last.length := by rw [unhide HLL]; exact hn2
              rw [show S.toNat = s' by omega, ← hLS]
              unfold intsA
              rw [List.getElem?_toArray, List.getElem?_map]
              simp [List.getD, List.getElem?_eq_getElem h4])
            have HSET : Hid (some (Obj.cells ((intsA last).setIfInBounds S.toNat (.int .i64 K)) 3 (0, 0)) = some (.cells (intsA (last.set s' K)) 3 (0, 0))) := hide (by
              rw [show S.toNat = s' by omega]
              unfold intsA
              rw [List.setIfInBounds_toArray, List.map_set])
            clear hn1 hn2 hn3 hn4 hn5 hn6 hv hcs hcb hS hK hLS
            subst hp
            clear hik him hz hl1
            go_wp2_with (go_at_call 14; fail)
            refine (next_any (unhide HQ2) _).mono ?_
            unfold NextA
            rw [(unhide HNX).1]
            rintro e w2 ⟨⟨x0, x1, x2, x3, x4, x5, x6⟩, rfl, hq, hx, hm⟩
            rw [← (unhide HNX).2.1]
            have HM2 : Hid (Mod F wr w2) := hide hm
            have HQ3 := hide hq
            have HX2 := hide hx
            clear hq hx hm
            simp only [TkV.val, TkV.cells]
            go_wp2_with (go_at_call 16; fail)
            refine (number_any _ ⟨x0, x1, x2, x3, x4, x5, x6⟩ _ ((unhide HX2).below (below_new w2 _))).mono ?_
            rw [numT_job, ← (unhide HNX).2.2]
            rintro e w3 ⟨rfl, hb⟩
            have HM3 : Hid (Mod F wr w3) := hide ((unhide HM2).trans (Mod.of_below ((below_new w2 (.cells #[.int .i64 x0, .slice x1 x2 x3, .slice x4 x5 x6] 34)).trans (hb.mono (by simp)))))
            have HQ4 : Hid (QueS w3 w.heap.size bq (jobsQ (ks.set s' l')) F) := hide ((unhide HQ3).below ((below_new w2 (.cells #[.int .i64 x0, .slice x1 x2 x3, .slice x4 x5 x6] 34)).trans (hb.mono (by simp))))
            have hrow3 : w3.heap[lb]? = some (.cells (intsA last) 3 (0, 0)) := ((unhide HM3).block lb (lt_of_block (unhide HROW)) (fun h => by have := (unhide HF) lb h; omega)).trans (unhide HROW)
            have HROW3 := hide hrow3
            have k0 : w3.cell? ⟨b, off + K.toNat, none⟩ = some (.int .u8 v) := (unhide HSC) w3 (unhide HM3)
            have k1 : w3.cell? ⟨lb, S.toNat, none⟩ = some (.int .i64 LS) := (cell_of_row _ _ _ _ _ _ hrow3).trans (unhide HLS)
            have kf : w3.frozen? ⟨lb, S.toNat, none⟩ = false := by simp [World.frozen?, hrow3]
            clear hb hrow3
            go_wp2
            have HR5 := hide (heap_setCell_same w3 lb S.toNat _ _ (.int .i64 K) (unhide HROW3))
            have HM5 : Hid (Mod (fun k => F k ∨ k = lb) wr (w3.setCell ⟨lb, S.toNat, none⟩ (.int .i64 K))) := hide ((((unhide HM3).mono (fun k _ h => .inl h))).trans (Mod.setCell w3 ⟨lb, S.toNat, none⟩ (.int .i64 K) (.inr rfl)))
            have HQ5 : Hid (QueS (w3.setCell ⟨lb, S.toNat, none⟩ (.int .i64 K)) w.heap.size bq (jobsQ (ks.set s' l')) F) := hide ((unhide HQ4).mod (Mod.setCell (F := (· = lb)) w3 ⟨lb, S.toNat, none⟩ (.int .i64 K) rfl) (fun k h1 h2 => by have := (unhide HF) k h1; omega))
            go_roundg r
            case measure => omega
            case rel => exact ⟨i + 1, _, _, last.set s' K, by go_num, by have := unhide HIK; have := unhide HIM; omega, by have := unhide HZ; omega, (((Mod.of_below (unhide HBX)).trans ((unhide HM5).mono (G := fun k => w.heap.size ≤ k) (fun k _ h => h.elim (fun h => ((unhide HQ2).lt k h).1) (fun h => by have := unhide HLB; omega)))).below (Nat.le_refl _) (fun k hk => hk)), unhide HQ5, by rw [List.length_set]; exact unhide HLL, (unhide HR5).trans (unhide HSET), by have := (unhide HINV2); rw [(unhide HNX).2.2]; exact this⟩
        · have hgk : gk = 0 := by omega
          subst hgk
          have hz' : y = z := by rw [(unhide HN).2.1]; omega
          subst hz'
          have hs0 : lenQ (jobsQ ks) = 0 := by rw [lenQ_jobs, hinv.total]
          have hr0 := ready_none hs0
          have HS0 := hide hs0
          clear hb hq hll hrow hinv him hik hz hs0
          go_wp2_with (go_at_call 14; fail)
          refine (next_any (unhide HQ2) 0).mono ?_
          unfold NextA
          rw [next_no hr0]
          rintro e w2 ⟨rfl, hq, hm⟩
          have HQ3 := hide (hq.below (below_new w2 (.cells #[.int .i64 0, .slice none 0 0, .slice none 0 0] 34)))
          have HB3 : Hid (Below w.heap.size w w2) := hide (((Mod.of_below (F := fun k => w.heap.size ≤ k) (unhide HBX)).then hm (fun k hk => .inl ((unhide HQ2).lt k hk).1)).below (Nat.le_refl _) (fun k hk => hk))
          have HB4 := hide ((unhide HB3).trans ((below_new w2 (.cells #[.int .i64 0, .slice none 0 0, .slice none 0 0] 34)).mono (unhide HB3).size))
          clear hq hm
          simp only [tkZ, TkV.val, TkV.cells]
          go_wp2_with (go_at_call 17; fail)
          refine (len_any (unhide HQ3)).mono ?_
          rw [unhide HS0]
          rintro e w3 ⟨rfl, hb⟩
          have HB5 := hide ((unhide HB4).trans (hb.mono (unhide HB4).size))
          clear hb
          go_wp2
          go_ret
          exact ⟨rfl, unhide HB5⟩
end Go.Proofs.Ytdfcdgjmjionbaa
