/-
  TaskPicks' walk.
-/
import Derived.Test.YtdfcdgjmjionbaaTn
import Derived.Deep.LoopGhost
namespace Go.Proofs.Ytdfcdgjmjionbaa
open Go.RowKit Go.Lib

theorem restM_mod (p : Int) (n : Nat) (hn : 0 < n) : restM p n = p % (n : Int) := by
  have h1 := tmod_lt p hn
  have h2 := Int.tmod_add_mul_tdiv p n
  have h3 : p.tmod n % (n : Int) = p % n := by
    conv => rhs; rw [← h2]
    rw [Int.add_mul_emod_self_left]
  unfold restM
  split
  · rw [← h3, ← Int.add_emod_right (a := p.tmod n)]
    exact (Int.emod_eq_of_lt (by omega) (by omega)).symm
  · rw [← h3]
    exact (Int.emod_eq_of_lt (by omega) (by omega)).symm
theorem restM_more (a t : Int) (n : Nat) (ha : 0 ≤ a) (h : a < n) : restM (a + t * n) n = a := by
  rw [restM_mod _ n (by omega)]
  rw [Int.add_mul_emod_self_right]
  exact Int.emod_eq_of_lt ha h
theorem post_ready {qs : List (List Tk)} (hl : qs.length = 4) (n : Nat) (hn : n < 4) (t : Tk) : readyQ (postM qs n t).2 ≠ [] := by
  match qs, hl with
  | [a, b, c, d], _ =>
    have key : ∀ (l : List (List Tk)), 0 < (l.getD n []).length → readyQ l ≠ [] := by
      intro l h e
      have : n ∈ readyQ l := List.mem_filter.2 ⟨List.mem_range.2 hn, by simpa using h⟩
      rw [e] at this
      cases this
    apply key
    unfold postM
    rw [if_neg (by omega)]
    split
    · dsimp only
      simp only [Int.toNat_natCast]
      rcases (by omega : n = 0 ∨ n = 1 ∨ n = 2 ∨ n = 3) with rfl | rfl | rfl | rfl <;> simp
    · rename_i h
      simp only [Int.toNat_natCast] at h ⊢
      omega

theorem picks_walk (l : List Int) (a : Option Addr) (cap : Nat) (pk tm : Int) (hp : 0 ≤ pk ∧ pk ≤ 255) (ht : -128 ≤ tm ∧ tm ≤ 127) (w : World) (hin : RowIn w (fun _ => True) a (bytesV l) ∧ ∀ x ∈ l, 0 ≤ x ∧ x ≤ 255) (_hlen : l.length ≤ 140737488351232) :
    Calls Try.prog 6 #[.slice a l.length cap, .int .u8 pk, .int .i8 tm] w fun e w' => e = .returned (.bool true) ∧ Below w.heap.size w w' := by
  have HIN := hide hin
  have HP := hide hp
  have HT := hide ht
  clear hin hp ht
  go_enter Try.func6, Try.ntmps6
  go_wp2_with (go_at_call 9; fail)
  refine (new_any _ _ (Nat.le_refl _)).mono ?_
  rintro e w1 ⟨bq, F, rfl, hq, hb, hF⟩
  have HQ := hide hq
  have HB1 := hide hb
  clear hq hb hF
  go_wp2
  go_loopg [8] (min l.length 100) (fun k s8 wx => ∃ (i : Nat) (z : Int) (F : Nat → Prop) (qs : List (List Tk)), s8 = .int .i64 z ∧ i + k = min l.length 100 ∧ z = (i : Int) ∧ Below w.heap.size w wx ∧ QueS wx w.heap.size bq qs F ∧ (0 < i → readyQ qs ≠ []))
  case atStart => exact ⟨0, 0, F, _, rfl, by omega, rfl, unhide HB1, unhide HQ, fun h => by omega⟩
  case round =>
    obtain ⟨i, z, F, qs, rfl, hik, hz, hb, hq, hrd⟩ := hrel
    have HBX := hide hb
    have HQX := hide hq
    clear hb hq
    by_cases him : i < min l.length 100
    · obtain ⟨v, hv⟩ : ∃ v, l[i]? = some v := ⟨_, List.getElem?_eq_getElem (by omega)⟩
      obtain ⟨b, off, rfl, _, hc0⟩ := (unhide HIN).1 i (.int .u8 v) (by unfold bytesV; rw [List.getElem?_map, hv]; rfl)
      have hbl : b < w.heap.size := World.block_lt_of_cell? w _ hc0
      have hc := ((unhide HBX).cell (p := ⟨b, off + i, none⟩) hbl).trans hc0
      have HS : Hid (∀ W', Mod (fun k => w.heap.size ≤ k) wr W' → W'.cell? ⟨b, off + i, none⟩ = some (.int .u8 v)) := hide fun W' hm => by
        rw [World.cell?_of_block (hm.block b (Nat.lt_of_lt_of_le hbl (unhide HBX).size) (by show ¬ w.heap.size ≤ b; omega))]
        exact hc
      have hvr := (unhide HIN).2 v (List.mem_of_getElem? hv)
      obtain ⟨n, N, hn4, hnN, hn⟩ : ∃ (n : Nat) (N : Int), n < 4 ∧ N = (n : Int) ∧ v.tmod 4 = N := ⟨(v.tmod 4).toNat, v.tmod 4, by have := Int.tmod_nonneg 4 hvr.1; have := Int.tmod_lt_of_pos v (show (0 : Int) < 4 by omega); omega, by have := Int.tmod_nonneg 4 hvr.1; omega, rfl⟩
      have hwn : wrap64 N = N := by unfold wrap64; omega
      have hzl : z < (l.length : Int) := by omega
      have hz1 : z < 100 := by omega
      have hz0 : 0 ≤ z := by omega
      have hzt : z.toNat = i := by omega
      have HN := hide (And.intro hn4 hnN)
      have HZ := hide hz
      have HIK := hide hik
      have HIM := hide him
      have hn0 : 0 ≤ N := by omega
      have hn1 : N < 4 := by omega
      have HP1 : Hid (∀ W2 (x : TkV), Mod (fun k => w.heap.size ≤ k) wr W2 → QueS W2 w.heap.size bq qs F → TkIn W2 (fun k => wr.heap.size ≤ k) (tkJob z) x → ∀ W, Below W2.heap.size W2 W → Calls Try.prog 11 #[.pointer (some ⟨bq, 0, none⟩), .int .i64 (IntKind.i64.wrap N), x.val] W fun e w' => ∃ v, e = .returned (.int .i64 v) ∧ ∃ qs' F', QueS w' w.heap.size bq qs' F' ∧ readyQ qs' ≠ [] ∧ Mod (fun k => w.heap.size ≤ k) wr w') :=
        hide fun W2 x hm hq hx W hb => by
          rw [show IntKind.i64.wrap N = N from wrap_fit _ (by omega) (by omega), hnN]
          refine (post_any (hq.below hb) (Nat.le_trans (unhide HBX).size (Nat.le_trans hm.size hb.size)) n (tkJob z) x (hx.below hb)).mono ?_
          rintro e w3 ⟨rfl, F', h1, h2, h3⟩
          exact ⟨_, rfl, _, F', h1, post_ready hq.len n hn4 _, (hm.trans (Mod.of_below hb)).then h2 (fun k hk => .inl (hq.lt k hk).1)⟩
      clear hik him hz hv hvr hn4 hnN hrd hc0 hbl
      go_wp2_with fail
      go_region_held3 (fun W' => W'.cell? ⟨b, off + i, none⟩ = some (.int .u8 v))
        (first | exact (unhide HS) _ (unhide M3) | exact (unhide HS) _ (unhide M3).drew | exact (unhide HS) _ (unhide M2) | exact (unhide HS) _ (unhide M2).drew | exact (unhide HS) _ (Mod.refl _ _) | exact (unhide HS) _ (Mod.refl _ _).drew) (first
        | (go_at_call 12; refine (job_any _ _).mono ?_; rintro e w2 ⟨x, rfl, hb, hx⟩; have hb2 := hb.mono (B := wr.heap.size) (Nat.le_refl _); have hb3 : Below wr.heap.size wr w2 := (by first | exact hb2 | exact (Below.refl _ wr).drew.trans hb2); have M2 : Hid (Mod (fun k => w.heap.size ≤ k) wr w2) := hide (Mod.of_below hb3); have HQ2 : Hid (QueS w2 w.heap.size bq qs F) := hide ((unhide HQX).below hb3); have HX : Hid (TkIn w2 (fun k => wr.heap.size ≤ k) (tkJob z) x) := hide hx; clear hb hb2 hb3 hx)
        | (go_at_call 11; refine (unhide HP1 w2 x (unhide M2) (unhide HQ2) (unhide HX) _ ?_).mono ?_; (first | exact Below.refl _ w2 | exact (Below.refl _ w2).drew); rintro e w3 ⟨v', rfl, qs', F', hq, hr, hm⟩; have M3 : Hid (Mod (fun k => w.heap.size ≤ k) wr w3) := hide hm; have HQ3 := hide hq; have HR3 := hide hr; clear hq hr hm))
      go_wp2
      go_roundg (gk - 1)
      case measure => have := unhide HIK; have := unhide HIM; omega
      case rel => exact ⟨i + 1, _, F', qs', by go_num, by have := unhide HIK; have := unhide HIM; omega, by have := unhide HZ; omega, (((Mod.of_below (unhide HBX)).trans (unhide M3)).below (Nat.le_refl _) (fun k hk => hk)), unhide HQ3, fun _ => unhide HR3⟩
    · have hi : i = min l.length 100 := by omega
      have HBX' := unhide HBX
      by_cases hr : readyQ qs = []
      · have hl0 : l.length = 0 := by
          rcases Nat.eq_zero_or_pos i with h | h
          · omega
          · exact absurd hr (hrd h)
        obtain rfl : l = [] := List.eq_nil_of_length_eq_zero hl0
        obtain rfl : z = 0 := by rw [hz, hi]; rfl
        clear him hik hz hi hl0 hrd HBX'
        simp only [List.length_nil] at *
        go_wp2_with (go_at_call 20; fail)
        refine (ready_any (unhide HQX)).mono ?_
        rw [hr]
        rintro e w2 ⟨ra, rc, rfl, hb, _⟩
        have HB2 := hide ((unhide HBX).trans (hb.mono (unhide HBX).size))
        clear hb
        simp only [List.length_nil]
        go_wp2
        go_ret
        exact ⟨rfl, unhide HB2⟩
      have hn0 : 0 < (readyQ qs).length := List.length_pos_iff.2 hr
      have hn4 := ready_len qs
      obtain ⟨A, hA⟩ : ∃ A : Int, pk.tmod ((readyQ qs).length : Nat) = A := ⟨_, rfl⟩
      have hA0 : 0 ≤ A := by rw [← hA]; exact Int.tmod_nonneg _ (unhide HP).1
      have hA1 : A < ((readyQ qs).length : Int) := by rw [← hA]; exact Int.tmod_lt_of_pos _ (by omega)
      obtain ⟨TM, hTM⟩ : ∃ TM : Int, tm * ((readyQ qs).length : Nat) = TM := ⟨_, rfl⟩
      have hT0 : -512 ≤ TM := by
        have := (unhide HT).1
        rw [← hTM]
        rcases (by omega : (readyQ qs).length = 1 ∨ (readyQ qs).length = 2 ∨ (readyQ qs).length = 3 ∨ (readyQ qs).length = 4) with h | h | h | h <;> rw [h] <;> omega
      have hT1 : TM ≤ 508 := by
        have := (unhide HT).2
        rw [← hTM]
        rcases (by omega : (readyQ qs).length = 1 ∨ (readyQ qs).length = 2 ∨ (readyQ qs).length = 3 ∨ (readyQ qs).length = 4) with h | h | h | h <;> rw [h] <;> omega
      obtain ⟨i', t', l', hix, _, _, hnx⟩ := next_yes hr (A + TM)
      rw [← hTM, restM_more A tm _ hA0 hA1] at hix
      have HIX : Hid ((readyQ qs)[A.toNat]? = some i' ∧ nextM qs (A + TM) = some (t', i', qs.set i' l')) := hide ⟨hix, hnx⟩
      have hnz : ((readyQ qs).length : Int) ≠ 0 := by omega
      have hnz2 : (((readyQ qs).length : Int) == 0) = false := by simpa using hnz
      have hp0 := (unhide HP).1
      have hp1 := (unhide HP).2
      have ht0 := (unhide HT).1
      have ht1 := (unhide HT).2
      have HZ := hide hz
      by_cases hzl : z < (l.length : Int)
      · have hz1 : ¬ z < 100 := by omega
        clear him hik hz hi hrd hix hnx HBX'
        go_wp2_with (go_at_call 20; fail)
        refine (ready_any (unhide HQX)).mono ?_
        rintro e w2 ⟨ra, rc, rfl, hb, hrow⟩
        obtain ⟨rb, ro, hra, hrb, hrc⟩ := hrow A.toNat (.int .i64 i') (by unfold intsV toI; rw [List.map_map, List.getElem?_map, (unhide HIX).1]; rfl)
        subst hra
        have HB2 := hide ((unhide HBX).trans (hb.mono (unhide HBX).size))
        have HQ2 := hide ((unhide HQX).below hb)
        have HRC := hide hrc
        have HRB : Hid (wr.heap.size ≤ rb) := hide hrb
        clear hb hrow hrb hrc
        generalize hn' : (readyQ qs).length = n at *
        go_wp2_with (go_at_call 14; fail)
        refine (next_any (unhide HQ2) _).mono ?_
        unfold NextA
        rw [show nextM qs (A + TM) = _ from (unhide HIX).2]
        rintro e w3 ⟨⟨x0, x1, x2, x3, x4, x5, x6⟩, rfl, hq, hx, hm⟩
        have hrc3 : w3.cell? ⟨rb, ro + A.toNat, none⟩ = some (.int .i64 i') := by
          rw [World.cell?_of_block (hm.block rb (World.block_lt_of_cell? w2 _ (unhide HRC)) (fun h => by have := ((unhide HQX).lt _ h).2; have := unhide HRB; omega))]
          exact unhide HRC
        have hrl : rb < w3.heap.size := World.block_lt_of_cell? w3 _ hrc3
        have HB3 : Hid (Below w.heap.size w w3) := hide (((Mod.of_below (F := fun k => w.heap.size ≤ k) (unhide HB2)).then hm (fun k hk => .inl ((unhide HQ2).lt k hk).1)).below (Nat.le_refl _) (fun k hk => hk))
        clear hq hx hm
        simp only [TkV.val, TkV.cells]
        go_wp2
        go_ret
        exact ⟨rfl, (unhide HB3).trans ((below_new w3 _).mono (unhide HB3).size)⟩
      · have hz1 : 0 ≤ z := by omega
        clear him hik hz hi hrd hix hnx HBX'
        go_wp2_with (go_at_call 20; fail)
        refine (ready_any (unhide HQX)).mono ?_
        rintro e w2 ⟨ra, rc, rfl, hb, hrow⟩
        obtain ⟨rb, ro, hra, hrb, hrc⟩ := hrow A.toNat (.int .i64 i') (by unfold intsV toI; rw [List.map_map, List.getElem?_map, (unhide HIX).1]; rfl)
        subst hra
        have HB2 := hide ((unhide HBX).trans (hb.mono (unhide HBX).size))
        have HQ2 := hide ((unhide HQX).below hb)
        have HRC := hide hrc
        have HRB : Hid (wr.heap.size ≤ rb) := hide hrb
        clear hb hrow hrb hrc
        generalize hn' : (readyQ qs).length = n at *
        go_wp2_with (go_at_call 14; fail)
        refine (next_any (unhide HQ2) _).mono ?_
        unfold NextA
        rw [show nextM qs (A + TM) = _ from (unhide HIX).2]
        rintro e w3 ⟨⟨x0, x1, x2, x3, x4, x5, x6⟩, rfl, hq, hx, hm⟩
        have hrc3 : w3.cell? ⟨rb, ro + A.toNat, none⟩ = some (.int .i64 i') := by
          rw [World.cell?_of_block (hm.block rb (World.block_lt_of_cell? w2 _ (unhide HRC)) (fun h => by have := ((unhide HQX).lt _ h).2; have := unhide HRB; omega))]
          exact unhide HRC
        have hrl : rb < w3.heap.size := World.block_lt_of_cell? w3 _ hrc3
        have HB3 : Hid (Below w.heap.size w w3) := hide (((Mod.of_below (F := fun k => w.heap.size ≤ k) (unhide HB2)).then hm (fun k hk => .inl ((unhide HQ2).lt k hk).1)).below (Nat.le_refl _) (fun k hk => hk))
        clear hq hx hm
        simp only [TkV.val, TkV.cells]
        go_wp2
        go_ret
        exact ⟨rfl, (unhide HB3).trans ((below_new w3 _).mono (unhide HB3).size)⟩
end Go.Proofs.Ytdfcdgjmjionbaa
