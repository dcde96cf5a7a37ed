import Derived.Test.YtkakncngkmoegaaGreatXHf
import Derived.Deep.LoopGhost
/-
  AdoptPlain, walked, for one of its names.
-/
namespace Go.Proofs.YtkakncngkmoegaaGreat
open Go.RowKit Go.Sort

set_option maxHeartbeats 2000000 in
set_option maxRecDepth 20000 in
theorem aplain_2 (d nm : Int) (hd : 0 ≤ d ∧ d ≤ 255) (hr : nm.tmod 4 = 2) (w : World) : Calls Tryz.prog 5 #[.int .u8 d, .int .u8 nm] w fun e w' => e = .returned (.bool true) ∧ Below w.heap.size w w' := by
  obtain ⟨nn, hnn, hn20⟩ : ∃ nn : Nat, d.tmod 20 = (nn : Int) ∧ nn < 20 := ⟨(d.tmod 20).toNat, by have := Int.tmod_nonneg 20 hd.1; omega, by have := Int.tmod_lt_of_pos d (show (0 : Int) < 20 by omega); have := Int.tmod_nonneg 20 hd.1; omega⟩
  have HB := hide (fun W => build_nil W)
  unfold ptr3 at HB
  have hw1 : IntKind.u8.wrap (d.tmod 20) = (nn : Int) := by rw [hnn]; rw [IntKind.wrap_u8]; omega
  have hw2 : IntKind.u8.wrap (nm.tmod 4) = 2 := by rw [hr]; rfl
  have hw3 : IntKind.i64.wrap (nn : Int) = (nn : Int) := wrap_small (by omega) (by omega)
  go_enter Tryz.func5, Tryz.ntmps5
  go_wp2_with (first
    | (go_at_call 7; refine ((unhide HB) _).mono ?_; rintro e w1 ⟨bA, bK, bL, bR, bW, bQ, rfl, he⟩; have he2 := (he.boxed #[.pointer (some ⟨bA, 0, none⟩), .pointer (some ⟨bK, 0, none⟩), .pointer (some ⟨bL, 0, none⟩)] 28).boxed #[.pointer (some ⟨bR, 0, none⟩), .pointer (some ⟨bW, 0, none⟩), .pointer (some ⟨bQ, 0, none⟩)] 33; have HE := hide he2; clear he he2))
  have hbb : Below w.heap.size w (w.alloc (.cells #[.string ⟨#[98]⟩, .string ⟨#[105]⟩, .string ⟨#[97]⟩, .string ⟨#[99, 111, 100, 101]⟩] 9)) := below_newAc _ _
  have HBB := hide hbb
  generalize w.alloc (.cells #[.string ⟨#[98]⟩, .string ⟨#[105]⟩, .string ⟨#[97]⟩, .string ⟨#[99, 111, 100, 101]⟩] 9) = wb at *
  clear hbb HB hw1 hw2 hr hd hnn
  obtain ⟨tl, htl⟩ : ∃ tl : List (Ob wb.heap.size), [rO _ bR [oneM 0], rsO _ bW bR [], qOb wb bQ bR [], blkOb _ w1.heap.size #[.pointer (some ⟨bA, 0, none⟩), .pointer (some ⟨bK, 0, none⟩), .pointer (some ⟨bL, 0, none⟩)] 28, blkOb _ (w1.alloc (.cells #[.pointer (some ⟨bA, 0, none⟩), .pointer (some ⟨bK, 0, none⟩), .pointer (some ⟨bL, 0, none⟩)] 28)).heap.size #[.pointer (some ⟨bR, 0, none⟩), .pointer (some ⟨bW, 0, none⟩), .pointer (some ⟨bQ, 0, none⟩)] 33] = tl := ⟨_, rfl⟩
  have hstart : Env wb ((w1.alloc (.cells #[.pointer (some ⟨bA, 0, none⟩), .pointer (some ⟨bK, 0, none⟩), .pointer (some ⟨bL, 0, none⟩)] 28)).alloc (.cells #[.pointer (some ⟨bR, 0, none⟩), .pointer (some ⟨bW, 0, none⟩), .pointer (some ⟨bQ, 0, none⟩)] 33)) (aO _ bA [oneM 0] :: stOb _ bK bA (keysO [oneM 0]) [] :: liOb _ bL bA [] :: tl) := by
    rw [← htl]; exact unhide HE
  have hcell : ∀ (W : World) (os : List OneM) (L : List Int) (es : List EntM), Env wb W (aO _ bA os :: stOb _ bK bA (keysO os) L :: liOb _ bL bA es :: tl) → W.cell? ⟨w1.heap.size, 0, none⟩ = some (.pointer (some ⟨bA, 0, none⟩)) ∧ W.cell? ⟨w1.heap.size, 1, none⟩ = some (.pointer (some ⟨bK, 0, none⟩)) ∧ W.cell? ⟨w1.heap.size, 2, none⟩ = some (.pointer (some ⟨bL, 0, none⟩)) := by
    intro W os L es hW
    rw [← htl] at hW
    have hb := hW.block (i := 6) (K := w1.heap.size) (cs := #[.pointer (some ⟨bA, 0, none⟩), .pointer (some ⟨bK, 0, none⟩), .pointer (some ⟨bL, 0, none⟩)]) (t := 28) rfl
    exact ⟨cell_of_row _ _ 0 _ _ _ hb, cell_of_row _ _ 1 _ _ _ hb, cell_of_row _ _ 2 _ _ _ hb⟩
  have HCL := hide hcell
  have HST := hide hstart
  clear HE htl hcell hstart
  generalize (w1.alloc (.cells #[.pointer (some ⟨bA, 0, none⟩), .pointer (some ⟨bK, 0, none⟩), .pointer (some ⟨bL, 0, none⟩)] 28)).alloc (.cells #[.pointer (some ⟨bR, 0, none⟩), .pointer (some ⟨bW, 0, none⟩), .pointer (some ⟨bQ, 0, none⟩)] 33) = W0 at *
  go_loopg [9, 11, 12, 13] nn (fun g s9 s11 _ _ wr => ∃ (i : Nat) (os : List OneM) (L : List Int), i + g = nn ∧ s9 = .int .i64 i ∧ s11 = .int .i64 i ∧ Env wb wr (aO _ bA os :: stOb _ bK bA (keysO os) L :: liOb _ bL bA [] :: tl) ∧ DivI os L i)
  case atStart => exact ⟨0, [oneM 0], [], by omega, rfl, rfl, unhide HST, DivI.start⟩
  case round =>
    obtain ⟨i, os, L, hig, rfl, rfl, hE, hD⟩ := hrel
    obtain ⟨x0, x1, x2⟩ := (unhide HCL) _ _ _ _ hE
    have HE1 := hide hE
    have HD := hide hD
    clear hE hD
    by_cases hlt : i < nn
    · have hltz : (i : Int) < (nn : Int) := by omega
      have hst := (unhide HD).step (by omega)
      have HEL := hide (fun W (hW : Env wb W _) => pEl (bA := bA) (bK := bK) (L := L) (tl := liOb _ bL bA [] :: tl) hW divB hst.1)
      have HLK := hide (fun W (hW : Env wb W (aO _ bA (os ++ [elemQ 0 divB []]) :: stOb _ bK bA (keysO (os ++ [elemQ 0 divB []])) L :: liOb _ bL bA [] :: tl)) => pLink hW (i : Int) ((i : Int) + 1))
      have hgd : Good (keysO (linkR (os ++ [elemQ 0 divB []]) (i : Int) ((i : Int) + 1) (-1))) L := hst.2.2.good.sub (List.sublist_append_left _ _)
      have HPU := hide (fun W (hW : Env wb W (aO _ bA (linkR (os ++ [elemQ 0 divB []]) (i : Int) ((i : Int) + 1) (-1)) :: stOb _ bK bA (keysO (linkR (os ++ [elemQ 0 divB []]) (i : Int) ((i : Int) + 1) (-1))) L :: liOb _ bL bA [] :: tl)) => pPush hW hgd ((i : Int) + 1) (show pushL _ L _ = L ++ [(i : Int) + 1] by unfold pushL; rw [if_pos hst.2.1]))
      have HD2 := hide hst.2.2
      have hw4 : IntKind.i64.wrap ((i : Int) + 1) = (i : Int) + 1 := wrap_small (by omega) (by omega)
      clear hst hgd HD
      unfold divB at HEL HLK HPU
      go_wp2_with (first
        | (go_at_call 18; refine ((unhide HEL) _ (unhide HE1)).mono ?_; rintro e w2 ⟨rfl, he2⟩; have HE2 := hide he2; clear x0 x1 x2; obtain ⟨x0, x1, x2⟩ := (unhide HCL) _ _ _ _ he2; clear he2)
        | (go_at_call 19; refine ((unhide HLK) _ (unhide HE2)).mono ?_; rintro e w3 ⟨⟨r3, rfl⟩, he3⟩; have HE3 := hide he3; clear x0 x1 x2; obtain ⟨x0, x1, x2⟩ := (unhide HCL) _ _ _ _ he3; clear he3)
        | (go_at_call 20; refine ((unhide HPU) _ (unhide HE3)).mono ?_; rintro e w4 ⟨⟨r4, rfl⟩, he4⟩; have HE4 := hide he4; clear x0 x1 x2; clear he4))
      go_roundg (gk - 1)
      case measure => omega
      case rel => exact ⟨i + 1, _, _, by omega, by simp, by simp, unhide HE4, unhide HD2⟩
    · have hltz : ¬ (i : Int) < (nn : Int) := by omega
      obtain rfl : i = nn := by omega
      have hls := (unhide HD).last (own := ⟨#[97]⟩) (by omega) (by decide +kernel) (by decide +kernel)
      have HEL := hide (fun W (hW : Env wb W _) => pEl (bA := bA) (bK := bK) (L := L) (tl := liOb _ bL bA [] :: tl) hW ⟨#[97]⟩ hls.1)
      have HLK := hide (fun W (hW : Env wb W (aO _ bA (os ++ [elemQ 0 ⟨#[97]⟩ []]) :: stOb _ bK bA (keysO (os ++ [elemQ 0 ⟨#[97]⟩ []])) L :: liOb _ bL bA [] :: tl)) => pLink hW (i : Int) ((i : Int) + 1))
      have hLs := (unhide HD).st
      have HEND : Hid (∀ W, Env wb W (aO _ bA (os ++ [elemQ 0 ⟨#[97]⟩ []]) :: stOb _ bK bA (keysO (os ++ [elemQ 0 ⟨#[97]⟩ []])) L :: liOb _ bL bA [] :: tl) → EndI (linkR (os ++ [elemQ 0 ⟨#[97]⟩ []]) (i : Int) ((i : Int) + 1) (-1)) ⟨#[97]⟩ i) := hide (fun W hW => by
        obtain ⟨ns, hs⟩ := hW.sim (i := 0) rfl
        exact hls.2 ns hs)
      have HLS := hide hLs
      clear hls hLs HD
      generalize linkR (os ++ [elemQ 0 ⟨#[97]⟩ []]) (i : Int) ((i : Int) + 1) (-1) = os2 at *
      go_wp2_with (first
        | (go_at_call 18; refine ((unhide HEL) _ (unhide HE1)).mono ?_; rintro e w2 ⟨rfl, he2⟩; have HE2 := hide he2; have HEI := hide ((unhide HEND) _ he2); clear x0 x1 x2; obtain ⟨x0, x1, x2⟩ := (unhide HCL) _ _ _ _ he2; clear he2)
        | (go_at_call 19; refine ((unhide HLK) _ (unhide HE2)).mono ?_; rintro e w3 ⟨⟨r3, rfl⟩, he3⟩; have HE3 := hide he3; clear x0 x1 x2; obtain ⟨x0, x1, x2⟩ := (unhide HCL) _ _ _ _ he3; clear he3)
        | (go_at_call 20; refine (pPush (unhide HE3) ((unhide HEI).divs (unhide HLS)) ((i : Int) + 1) ((unhide HEI).enter (unhide HLS))).mono ?_; rintro e w4 ⟨⟨r4, rfl⟩, he4⟩; have HE4 := hide he4; clear x0 x1 x2; obtain ⟨x0, x1, x2⟩ := (unhide HCL) _ _ _ _ he4; clear he4)
        | (go_at_call 21; refine (pEnter (unhide HE4) ⟨#[97]⟩ ((i : Int) + 1) (unhide HEI).push).mono ?_; rintro e w5 ⟨⟨r5, rfl⟩, he5⟩; have HE5 := hide he5; clear x0 x1 x2; obtain ⟨x0, x1, x2⟩ := (unhide HCL) _ _ _ _ he5; clear he5)
        | (go_at_call 8; refine (pRun (unhide HE5) (unhide HEI) (by omega) (unhide HLS) (by decide +kernel)).mono ?_; rintro e w6 ⟨rfl, he6⟩; have HE6 := hide he6; clear x0 x1 x2; obtain ⟨x0, x1, x2⟩ := (unhide HCL) _ _ _ _ he6; clear he6)
        | (go_at_call 14; refine (pNodeI (unhide HE6) (unhide HEI)).mono ?_; rintro e w7 ⟨nk, nsp, nm2, ao, mm, cc, da, sy, fi, la, pr, ne, inn, rfl, he7⟩; have HE7 := hide (he7.more (below_newAc w7 (.cells #[.int .i64 nk, .int .i64 nsp, .string nm2, .slice ao mm cc, .string da, .string sy, .int .i64 i, .int .i64 fi, .int .i64 la, .int .i64 pr, .int .i64 ne, .int .i64 inn] 47))); clear x0 x1 x2; obtain ⟨x0, x1, x2⟩ := (unhide HCL) _ _ _ _ (unhide HE7); clear he7)
        | (go_at_call 13; refine (pSLen (unhide HE7)).mono ?_; rintro e w8 ⟨rfl, rfl⟩; rw [divs_len (unhide HLS)])
        | (go_at_call 16; refine (pLLen (unhide HE7)).mono ?_; rintro e w8 ⟨rfl, rfl⟩)
        | (go_at_call 12; refine (pALen (unhide HE7)).mono ?_; rintro e w8 ⟨rfl, rfl⟩; rw [(unhide HEI).len]))
      go_ret
      exact ⟨rfl, (unhide HBB).trans ((unhide HE7).bel.mono (unhide HBB).size)⟩
end Go.Proofs.YtkakncngkmoegaaGreat
