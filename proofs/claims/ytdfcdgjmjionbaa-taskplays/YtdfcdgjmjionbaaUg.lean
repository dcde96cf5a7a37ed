/-
  The document's Next where something waits.
-/
import Derived.Test.YtdfcdgjmjionbaaUf
import Derived.Test.YtdfcdgjmjionbaaTh
namespace Go.Proofs.Ytdfcdgjmjionbaa
open Go.RowKit Go.Lib

set_option maxRecDepth 20000 in
set_option maxHeartbeats 4000000 in
theorem rnext_some {w : World} {base rq : Nat} {ls : List (List Jb)} {F : Nat → Prop} (h : RefS w base rq ls F) (pick : Int) (i : Nat) (y : Jb) (l : List Jb) (hr : (toI (readyT ls 4))[(restM pick (readyT ls 4).length).toNat]? = some (i : Int)) (hi : ls[i]? = some (y :: l)) :
    Calls Try.prog 15 #[.pointer (some ⟨rq, 0, none⟩), .int .i64 pick] w fun e w' => e = .returned (.tuple #[y.val, .int .i64 i, .bool true]) ∧ RefS w' base rq (ls.set i l) F ∧ JobAt w' y.b y.n ∧ F y.b ∧ Mod F w w' := by
  obtain ⟨rows, ps, hF, h6, h7, h8, h9, h10⟩ := h.lies
  have hlen := h.len
  have hil := (List.getElem?_eq_some_iff.1 hi).1
  obtain ⟨p, hp⟩ : ∃ p, ps[i]? = some p := ⟨_, List.getElem?_eq_getElem (by omega)⟩
  obtain ⟨hpa, hpx, hpF⟩ := h9 i p hp
  have hxs : p.xs = y :: l := by rw [hi] at hpx; exact (Option.some.inj hpx).symm
  have hcap : p.cap ≠ 0 := by have := hpa.len; rw [hxs] at this; simp at this; omega
  obtain ⟨g, off, cur, hpaa, _, hg, _, hcs⟩ := hpa.lies.resolve_left hcap
  have hjob := h.jobs _ (List.mem_of_getElem? hi) y List.mem_cons_self
  have hn := (List.getElem?_eq_some_iff.1 hr).1
  rw [toI_len] at hn
  have hn0 : 0 < (readyT ls 4).length := by omega
  have hn4 : (readyT ls 4).length ≤ 4 := by have := readyT_le ls 4; rw [toI_len] at this; exact this
  obtain ⟨N, hN⟩ : ∃ N : Nat, (readyT ls 4).length = N := ⟨_, rfl⟩
  have htm := tmod_lt pick hn0
  rw [hN] at hn0 hn4 hr htm
  obtain ⟨T, hT⟩ : ∃ T : Int, pick.tmod (N : Nat) = T := ⟨_, rfl⟩
  rw [hT] at htm
  have hA : restM pick N = if T < 0 then T + N else T := by unfold restM; rw [hT]
  -- facts of any world behind the result's cell
  have HW : Hid (∀ W, Below w.heap.size w W → W.cell? ⟨rq, 0, none⟩ = some (.slice (some ⟨rows, 0, none⟩) 4 4) ∧ W.cell? ⟨rows, i, none⟩ = some (.slice (some ⟨g, off, none⟩) p.xs.length p.cap) ∧ W.frozen? ⟨rows, i, none⟩ = false ∧ W.cell? ⟨g, off, none⟩ = some (.int .i64 2) ∧ W.cell? ⟨g, off + 1, none⟩ = some (.slice none 0 0) ∧ W.cell? ⟨g, off + 2, none⟩ = some (.slice (some ⟨y.b, 0, none⟩) 1 1) ∧ rq < W.heap.size ∧ rows < W.heap.size ∧ g < W.heap.size) := hide fun W hb => by
    have e6 := (hb.block rq (lt_of_block h6)).trans h6
    have e8 := (hb.block rows (lt_of_block h8)).trans h8
    have eg := (hb.block g (lt_of_block hg)).trans hg
    have cg : ∀ (j : Nat) u, (rowT p.xs)[j]? = some u → W.cell? ⟨g, off + j, none⟩ = some u := fun j u hj => (cell_of_row _ _ _ _ _ _ eg).trans (hcs j u hj)
    refine ⟨(cell_of_row _ _ 0 _ _ _ e6).trans (by rfl), ?_, by simp [World.frozen?, e8], ?_, ?_, ?_, lt_of_block e6, lt_of_block e8, lt_of_block eg⟩
    · rw [cell_of_row _ _ i _ _ _ e8]
      simp [hp, PartM.val, hpaa]
    · exact cg 0 _ (by rw [hxs]; rfl)
    · exact cg 1 _ (by rw [hxs]; rfl)
    · exact cg 2 _ (by rw [hxs]; rfl)
  have HCUT := hide fun (W : World) (hb : Below w.heap.size w W) => RefS.cut (h.below hb) hi hF ((hb.block rq (lt_of_block h6)).trans h6) h7 ((hb.block rows (lt_of_block h8)).trans h8) (fun i p hp => ⟨((h9 i p hp).1).mod (F := fun _ => False) (Mod.of_below hb) (fun _ _ e => e), (h9 i p hp).2⟩) h10 hp
  have hsl : ∀ W, (Instr.slice 67 (.slice (some ⟨g, off, none⟩) p.xs.length p.cap) (some (.int .i64 1)) none none).run Try.prog W = .ok (.slice (p.tail l).a l.length (p.tail l).cap) W := fun W => by
    have := run_tail p y l hxs W
    rw [hpaa] at this
    exact this
  have HRD : Hid (∀ W, Below w.heap.size w W → Calls Try.prog 21 #[.pointer (some ⟨rq, 0, none⟩)] W fun e w' => ∃ a cap, e = .returned (.slice a N cap) ∧ Below W.heap.size W w' ∧ RowIn w' (fun k => W.heap.size ≤ k) a (intsV (toI (readyT ls 4)))) := hide fun W hb => by
    have := rready_any (h.below hb)
    rw [toI_len, hN] at this
    exact this
  have HFL := hide h.lt
  have HNR : Hid (y.b ≠ rows) := hide (types_ne hjob.2 h8 (by decide))
  have HJ := hide hjob
  have HFR := hide hF
  have HR := hide hr
  have HA := hide hA
  have hnz : (N : Int) ≠ 0 := by omega
  have hnz2 : ((N : Int) == 0) = false := by simpa using hnz
  have hi0 : (0 : Int) ≤ (i : Int) := by omega
  have hi4 : (i : Int) < 4 := by omega
  have hNN : (N : Int) ≤ 4 := by omega
  obtain ⟨n, hpn⟩ : ∃ n, p.xs.length = n := ⟨_, rfl⟩
  have hn1 : (0 : Int) < (n : Int) := by rw [← hpn, hxs]; simp
  have hta : ∃ a c, (p.tail l).a = a ∧ (p.tail l).cap = c := ⟨_, _, rfl, rfl⟩
  obtain ⟨ta, tc, hta, htc⟩ := hta
  have HVAL : Hid ((p.tail l).val = .slice ta l.length tc) := hide (by unfold PartM.val; rw [hta, htc]; rfl)
  rw [hpn] at HW
  rw [hpn, hta, htc] at hsl
  have HB0 := hide (below_new w (.cells #[.int .i64 0, .slice none 0 0, .slice none 0 0] 34))
  have HX0 := hide (heap_alloc_new w (.cells #[.int .i64 0, .slice none 0 0, .slice none 0 0] 34))
  clear h hr hi hF h6 h7 h8 h9 h10 hlen hil hp hpa hpx hpF hxs hcap hpaa hg hcs hjob hn hn0 hn4 hN hA hpn
  go_enter Try.func15, Try.ntmps15
  go_wp2_with (go_at_call 21; fail)
  refine (unhide HRD _ (unhide HB0)).mono ?_
  rintro e w1 ⟨ra, rc, rfl, hb, hrow⟩
  have HB1 := hide ((unhide HB0).trans (hb.mono (unhide HB0).size))
  have HX1 := hide ((hb.block w.heap.size (lt_of_block (unhide HX0))).trans (unhide HX0))
  obtain ⟨r0, r1, r2, r3, r4, r5, r6, r7, r8⟩ := (unhide HW) w1 (unhide HB1)
  have hs0 : w.heap.size < w1.heap.size := lt_of_block (unhide HX1)
  have hx2 : ∀ v, (w1.setCell ⟨rows, i, none⟩ v).heap[w.heap.size]? = some (.cells #[.int .i64 0, .slice none 0 0, .slice none 0 0] 34 (0, 0)) := fun v => (Below.heap_setCell _ _ _ _ (by have := ((unhide HFL) rows (unhide HFR)).2; show w.heap.size ≠ rows; omega)).trans (unhide HX1)
  have HX2 := hide hx2
  have x0 : ∀ v, (w1.setCell ⟨rows, i, none⟩ v).cell? ⟨w.heap.size, 0, none⟩ = some (.int .i64 0) := fun v => (cell_of_row _ _ 0 _ _ _ (hx2 v)).trans (by rfl)
  have x1 : ∀ v, (w1.setCell ⟨rows, i, none⟩ v).cell? ⟨w.heap.size, 1, none⟩ = some (.slice none 0 0) := fun v => (cell_of_row _ _ 1 _ _ _ (hx2 v)).trans (by rfl)
  have x2 : ∀ v, (w1.setCell ⟨rows, i, none⟩ v).cell? ⟨w.heap.size, 2, none⟩ = some (.slice none 0 0) := fun v => (cell_of_row _ _ 2 _ _ _ (hx2 v)).trans (by rfl)
  have xf : ∀ v j, (w1.setCell ⟨rows, i, none⟩ v).frozen? ⟨w.heap.size, j, none⟩ = false := fun v j => by simp [World.frozen?, hx2 v]
  clear hx2
  by_cases hT0 : T < 0
  · obtain ⟨A, hAA⟩ : ∃ A : Int, T + N = A := ⟨_, rfl⟩
    have hAr : restM pick N = A := by rw [unhide HA, if_pos hT0]; exact hAA
    obtain ⟨rb, ro, hra, hrb, hrc⟩ := hrow A.toNat (.int .i64 i) (by unfold intsV; rw [List.getElem?_map, ← hAr, unhide HR]; rfl)
    subst hra
    have hrl : rb < w1.heap.size := World.block_lt_of_cell? w1 _ hrc
    have hA0 : 0 ≤ A := by omega
    have hA1 : A < (N : Int) := by omega
    clear hb hrow hAr hrb
    go_wp2
    go_region
    go_wp2
    obtain ⟨hc1, hc2⟩ := (unhide HCUT) w1 (unhide HB1)
    rw [unhide HVAL] at hc1 hc2
    have hs1 := heap_setCell_same _ w.heap.size 0 _ _ (.int .i64 2) ((unhide HX2) (.slice ta l.length tc))
    have hs2 := heap_setCell_same _ w.heap.size 1 _ _ (.slice none 0 0) hs1
    have hs3 := heap_setCell_same _ w.heap.size 2 _ _ (.slice (some ⟨y.b, 0, none⟩) 1 1) hs2
    have hs4 := (Below.heap_alloc _ (.cells #[.int .i64 2, .slice none 0 0, .slice (some ⟨y.b, 0, none⟩) 1 1] 34) w.heap.size (lt_of_block hs3)).trans hs3
    have hmm := ((((Mod.setCell (F := (· = w.heap.size)) (w1.setCell ⟨rows, i, none⟩ (.slice ta l.length tc)) ⟨w.heap.size, 0, none⟩ (.int .i64 2) rfl).trans (Mod.setCell _ ⟨w.heap.size, 1, none⟩ (.slice none 0 0) rfl)).trans (Mod.setCell _ ⟨w.heap.size, 2, none⟩ (.slice (some ⟨y.b, 0, none⟩) 1 1) rfl)).alloc (.cells #[.int .i64 2, .slice none 0 0, .slice (some ⟨y.b, 0, none⟩) 1 1] 34)).drew
    have hF : ∀ k, F k → ¬ k = w.heap.size := fun k hk => by have := ((unhide HFL) k hk).2; omega
    have hjb : JobAt (w1.setCell ⟨rows, i, none⟩ (.slice ta l.length tc)) y.b y.n := (Below.heap_setCell _ _ _ _ (unhide HNR)).trans (((unhide HB1).block y.b (lt_of_block (unhide HJ).2)).trans (unhide HJ).2)
    have hlt1 := lt_of_block hjb
    refine bodyPost_ret (v := .tuple #[TkV.val ⟨2, none, 0, 0, some ⟨y.b, 0, none⟩, 1, 1⟩, .int .i64 i, .bool true]) (by refine tk_ret15 (b := w.heap.size) (x := ⟨2, none, 0, 0, some ⟨y.b, 0, none⟩, 1, 1⟩) ?_ _ rfl rfl rfl; exact hs4) rfl ⟨rfl, hc1.mod hmm hF, (hmm.block y.b hlt1 (hF _ (unhide HJ).1)).trans hjb, (unhide HJ).1, ?_⟩
    exact (((Mod.of_below (unhide HB1)).trans hc2).then hmm (fun k hk => .inr (by omega)))
  · obtain ⟨A, hAA⟩ : ∃ A : Int, T = A := ⟨_, rfl⟩
    have hAr : restM pick N = A := by rw [unhide HA, if_neg hT0]; exact hAA
    obtain ⟨rb, ro, hra, hrb, hrc⟩ := hrow A.toNat (.int .i64 i) (by unfold intsV; rw [List.getElem?_map, ← hAr, unhide HR]; rfl)
    subst hra
    have hrl : rb < w1.heap.size := World.block_lt_of_cell? w1 _ hrc
    have hA0 : 0 ≤ A := by omega
    have hA1 : A < (N : Int) := by omega
    clear hb hrow hAr hrb
    go_wp2
    go_region
    go_wp2
    obtain ⟨hc1, hc2⟩ := (unhide HCUT) w1 (unhide HB1)
    rw [unhide HVAL] at hc1 hc2
    have hs1 := heap_setCell_same _ w.heap.size 0 _ _ (.int .i64 2) ((unhide HX2) (.slice ta l.length tc))
    have hs2 := heap_setCell_same _ w.heap.size 1 _ _ (.slice none 0 0) hs1
    have hs3 := heap_setCell_same _ w.heap.size 2 _ _ (.slice (some ⟨y.b, 0, none⟩) 1 1) hs2
    have hs4 := (Below.heap_alloc _ (.cells #[.int .i64 2, .slice none 0 0, .slice (some ⟨y.b, 0, none⟩) 1 1] 34) w.heap.size (lt_of_block hs3)).trans hs3
    have hmm := ((((Mod.setCell (F := (· = w.heap.size)) (w1.setCell ⟨rows, i, none⟩ (.slice ta l.length tc)) ⟨w.heap.size, 0, none⟩ (.int .i64 2) rfl).trans (Mod.setCell _ ⟨w.heap.size, 1, none⟩ (.slice none 0 0) rfl)).trans (Mod.setCell _ ⟨w.heap.size, 2, none⟩ (.slice (some ⟨y.b, 0, none⟩) 1 1) rfl)).alloc (.cells #[.int .i64 2, .slice none 0 0, .slice (some ⟨y.b, 0, none⟩) 1 1] 34)).drew
    have hF : ∀ k, F k → ¬ k = w.heap.size := fun k hk => by have := ((unhide HFL) k hk).2; omega
    have hjb : JobAt (w1.setCell ⟨rows, i, none⟩ (.slice ta l.length tc)) y.b y.n := (Below.heap_setCell _ _ _ _ (unhide HNR)).trans (((unhide HB1).block y.b (lt_of_block (unhide HJ).2)).trans (unhide HJ).2)
    have hlt1 := lt_of_block hjb
    refine bodyPost_ret (v := .tuple #[TkV.val ⟨2, none, 0, 0, some ⟨y.b, 0, none⟩, 1, 1⟩, .int .i64 i, .bool true]) (by refine tk_ret15 (b := w.heap.size) (x := ⟨2, none, 0, 0, some ⟨y.b, 0, none⟩, 1, 1⟩) ?_ _ rfl rfl rfl; exact hs4) rfl ⟨rfl, hc1.mod hmm hF, (hmm.block y.b hlt1 (hF _ (unhide HJ).1)).trans hjb, (unhide HJ).1, ?_⟩
    exact (((Mod.of_below (unhide HB1)).trans hc2).then hmm (fun k hk => .inr (by omega)))
end Go.Proofs.Ytdfcdgjmjionbaa
