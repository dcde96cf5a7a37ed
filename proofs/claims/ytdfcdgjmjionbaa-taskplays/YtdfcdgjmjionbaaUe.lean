/-
  The document's Post, walked.
-/
import Derived.Test.YtdfcdgjmjionbaaUd
import Derived.Deep.RegionLaw
namespace Go.Proofs.Ytdfcdgjmjionbaa
open Go.RowKit Go.Lib

/-- A post: its error, and what waits then. -/
def postT (ls : List (List Jb)) (src : Int) (x : Jb) : Int × List (List Jb) :=
  if src < 0 ∨ 4 ≤ src then (1, ls) else if (ls.getD src.toNat []).length < 4096 then (0, ls.set src.toNat (ls.getD src.toNat [] ++ [x])) else (9, ls)

theorem rpost_arg (rq : Nat) (src : Int) (x : Jb) (hs : src < 0 ∨ 4 ≤ src) (w : World) : Calls Try.prog 13 #[.pointer (some ⟨rq, 0, none⟩), .int .i64 src, x.val] w fun e w' => e = .returned (.int .i64 1) ∧ Below w.heap.size w w' := by
  have HB := hide (below_new w (.cells #[.int .i64 2, .slice none 0 0, .slice (some ⟨x.b, 0, none⟩) 1 1] 34))
  unfold Jb.val
  by_cases hlt : src < 0
  · clear hs
    go_enter Try.func13, Try.ntmps13
    go_wp2
    go_ret
    exact ⟨rfl, unhide HB⟩
  · have h3 : 3 < src := by omega
    clear hs
    go_enter Try.func13, Try.ntmps13
    go_wp2
    go_ret
    exact ⟨rfl, unhide HB⟩

set_option maxRecDepth 10000 in
set_option maxHeartbeats 4000000 in
theorem rpost_room {w : World} {base rq : Nat} {ls : List (List Jb)} {F : Nat → Prop} (h : RefS w base rq ls F) (hbase : base ≤ w.heap.size) (i : Nat) (l : List Jb) (hi : ls[i]? = some l) (hl : l.length < 4096) (x : Jb) (hx : JobAt w x.b x.n) (hxb : base ≤ x.b) :
    Calls Try.prog 13 #[.pointer (some ⟨rq, 0, none⟩), .int .i64 i, x.val] w fun e w' => e = .returned (.int .i64 0) ∧ ∃ F', RefS w' base rq (ls.set i (l ++ [x])) F' ∧ Mod F w w' ∧ (∀ k, F' k → F k ∨ k = x.b ∨ w.heap.size ≤ k) := by
  obtain ⟨rows, ps, hF, h6, h7, h8, h9, h10⟩ := h.lies
  have hlen := h.len
  have hil := (List.getElem?_eq_some_iff.1 hi).1
  obtain ⟨p, hp⟩ : ∃ p, ps[i]? = some p := ⟨_, List.getElem?_eq_getElem (by omega)⟩
  obtain ⟨hpa, hpx, hpF⟩ := h9 i p hp
  have hlx : l = p.xs := by rw [hi] at hpx; exact Option.some.inj hpx
  subst hlx
  have hnb : Below w.heap.size w (w.alloc (.cells #[.int .i64 2, .slice none 0 0, .slice (some ⟨x.b, 0, none⟩) 1 1] 34)) := below_new w _
  have hbox := heap_alloc_new w (.cells #[.int .i64 2, .slice none 0 0, .slice (some ⟨x.b, 0, none⟩) 1 1] 34)
  have hsz : (w.alloc (.cells #[.int .i64 2, .slice none 0 0, .slice (some ⟨x.b, 0, none⟩) 1 1] 34)).heap.size = w.heap.size + 1 := by simp
  generalize hw0 : w.alloc (.cells #[.int .i64 2, .slice none 0 0, .slice (some ⟨x.b, 0, none⟩) 1 1] 34) = w0 at *
  have k0 : w0.cell? ⟨rq, 0, none⟩ = some (.slice (some ⟨rows, 0, none⟩) 4 4) := (cell_of_row _ _ 0 _ _ _ ((hnb.block rq (lt_of_block h6)).trans h6)).trans (by rfl)
  have k1 : w0.cell? ⟨rows, i, none⟩ = some (.slice p.a p.xs.length p.cap) := by
    rw [cell_of_row _ _ i _ _ _ ((hnb.block rows (lt_of_block h8)).trans h8)]
    simp [hp, PartM.val]
  have b0 := (cell_of_row _ _ 0 _ _ _ hbox).trans (by rfl : _ = some (.int .i64 2))
  have b1 := (cell_of_row _ _ 1 _ _ _ hbox).trans (by rfl : _ = some (.slice none 0 0))
  have b2 := (cell_of_row _ _ 2 _ _ _ hbox).trans (by rfl : _ = some (.slice (some ⟨x.b, 0, none⟩) 1 1))
  have hq0 : rq < w0.heap.size := by have := lt_of_block h6; omega
  have hr0 : rows < w0.heap.size := by have := lt_of_block h8; omega
  have hs0 : w.heap.size < w0.heap.size := by omega
  have hi4 : ¬ (3 : Int) < (i : Int) := by omega
  have hi5 : (i : Int) < 4 := by omega
  have hi0 : (0 : Int) ≤ (i : Int) := by omega
  obtain ⟨L, hL, hll⟩ : ∃ L : Int, (p.xs.length : Int) = L ∧ ¬ 4096 ≤ L := ⟨_, rfl, by omega⟩
  have HPUT := hide fun (w2 w1 : World) (p' : PartM) (hb : Below w.heap.size w w2) hp' hxs hm ho => RefS.put (w0 := w2) (w1 := w1) (p' := p') h hb hi hl x hx hxb hF h6 h7 h8 h9 h10 hp hp' hxs hm ho
  have HPX : Hid (∀ W, Below w.heap.size w W → PartAt W base p) := hide fun W hb => hpa.mod (F := fun _ => False) (Mod.of_below hb) (fun _ _ e => e)
  have HBS : Hid (∀ W : World, Below w.heap.size w W → base ≤ W.heap.size) := hide fun W hb => Nat.le_trans hbase hb.size
  have hfr0 : ∀ j, w0.frozen? ⟨rows, j, none⟩ = false := fun j => by simp [World.frozen?, (hnb.block rows (lt_of_block h8)).trans h8]
  have HK : Hid (∀ W1 W2, Below w0.heap.size w0 W1 → Mod (fun k => p.own = some k) W1 W2 → W2.cell? ⟨rq, 0, none⟩ = some (.slice (some ⟨rows, 0, none⟩) 4 4) ∧ W2.cell? ⟨rows, i, none⟩ = some (.slice p.a p.xs.length p.cap) ∧ W2.frozen? ⟨rows, i, none⟩ = false) := hide fun W1 W2 hb hm => by
    have e1 : W2.heap[rq]? = w0.heap[rq]? := (hm.block rq (Nat.lt_of_lt_of_le hq0 hb.size) (fun e => by obtain ⟨_, _, cur, hc⟩ := hpa.own_lt e; exact types_ne h6 hc (by decide) rfl)).trans (hb.block rq hq0)
    have e2 : W2.heap[rows]? = w0.heap[rows]? := (hm.block rows (Nat.lt_of_lt_of_le hr0 hb.size) (fun e => by obtain ⟨_, _, cur, hc⟩ := hpa.own_lt e; exact types_ne h8 hc (by decide) rfl)).trans (hb.block rows hr0)
    exact ⟨(World.cell?_of_block (a := ⟨rq, 0, none⟩) e1).trans k0, (World.cell?_of_block (a := ⟨rows, i, none⟩) e2).trans k1, (World.frozen?_of_block (a := ⟨rows, i, none⟩) e2).trans (hfr0 i)⟩
  have HNB := hide hnb
  have HLL := hide hl
  generalize hn : p.xs.length = n at *
  have HSZ := hide hsz
  clear h hbase hi hl hx hxb hF h6 h7 h8 h9 h10 hp hpa hpx hpF hlen hil hnb hbox hsz
  have HB0 : Hid (Below w0.heap.size w0 (w0.alloc (.cells #[.int .i64 2, .slice none 0 0, .slice (some ⟨x.b, 0, none⟩) 1 1] 34))) := hide (below_new w0 _)
  have HB1 : Hid (Below w.heap.size w (w0.alloc (.cells #[.int .i64 2, .slice none 0 0, .slice (some ⟨x.b, 0, none⟩) 1 1] 34))) := hide ((unhide HNB).trans ((below_new w0 _).mono (by have := unhide HSZ; omega)))
  have HJ1 : Hid (RowIn (w0.alloc (.cells #[.int .i64 2, .slice none 0 0, .slice (some ⟨x.b, 0, none⟩) 1 1] 34)) (fun _ => True) (some ⟨w0.heap.size, 0, none⟩) x.cells) := hide fun j u hj => by
    refine ⟨w0.heap.size, 0, rfl, trivial, ?_⟩
    rw [Nat.zero_add, cell_of_row _ _ j _ _ _ (heap_alloc_new w0 _)]
    simpa [Jb.cells] using hj
  unfold Jb.val
  go_enter Try.func13, Try.ntmps13
  go_wp2
  go_region_law ((refine step_part (base := base) (p := p) (by rfl) _ _ (by rfl) (by unfold PartM.val; rw [hn]; rfl) x (some ⟨w0.heap.size, 0, none⟩) 1 (F := fun _ => True) (by rfl) (by first | exact (unhide HPX) _ (unhide HB1) | exact (unhide HPX) _ (unhide HB1).drew) (by first | exact (unhide HBS) _ (unhide HB1) | exact (unhide HBS) _ (unhide HB1).drew) (by first | exact unhide HJ1 | exact (unhide HJ1).below (Below.refl _ _).drew) (by rw [hn]; have := unhide HLL; omega) ?_); intro a' n' cap' p' w1 hv hp' hxs hm ho; have HRS := hide ((unhide HPUT) _ w1 p' (by first | exact unhide HB1 | exact (unhide HB1).drew) hp' hxs hm ho); rw [hv] at HRS; have hk := (unhide HK) _ _ (by first | exact unhide HB0 | exact (unhide HB0).drew) hm; have c1 := hk.1; have c2 := hk.2.1; have c3 := hk.2.2; clear hk hv hp' hxs hm ho)
  all_goals
    go_wp2
    go_ret
    exact ⟨rfl, _, (unhide HRS).1, (unhide HRS).2, fun k hk => hk.imp id (fun h => h.imp id And.left)⟩
end Go.Proofs.Ytdfcdgjmjionbaa
