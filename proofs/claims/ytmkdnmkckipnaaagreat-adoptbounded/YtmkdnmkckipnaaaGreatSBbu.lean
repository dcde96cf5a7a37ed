/-
   
-/
import Derived.Test.YtmkdnmkckipnaaaGreatSBbt
import Derived.Test.YtmkdnmkckipnaaaGreatSBbs
namespace Go.Proofs.YtmkdnmkckipnaaaGreat
open Go.RowKit Go.Sort

section
variable {w wx : World} {P : Pt} {s : St} {c : Ct} {rest : List (Ob w.heap.size)} {n : Nat}
theorem AE.boxesT (h : AE w wx P s c rest) (id : Int) (t0 : Int) (t1 t2 t3 : ByteArray) (t4 : Int) (t5 : Bool) (t6 : Int) (t7 : Bool) (ao : Option Addr) (m ac : Nat) : AE w (((wx.alloc (.cells #[.pointer (some ⟨P.bG, 0, none⟩)] 83)).alloc (.cells #[.int .i64 id] 3)).alloc (.cells #[.int .i64 t0, .string t1, .string t2, .string t3, .int .i64 t4, .bool t5, .int .i32 t6, .bool t7, .slice ao m ac] 52)) P s c (((rest ++ [blkOb _ wx.heap.size #[.pointer (some ⟨P.bG, 0, none⟩)] 83]) ++ [blkOb _ (wx.heap.size + 1) #[.int .i64 id] 3]) ++ [blkOb _ (wx.heap.size + 1 + 1) #[.int .i64 t0, .string t1, .string t2, .string t3, .int .i64 t4, .bool t5, .int .i32 t6, .bool t7, .slice ao m ac] 52]) := by
  have h2 := (h.boxes (Dk.start wx P.bG id)).boxed #[.int .i64 t0, .string t1, .string t2, .string t3, .int .i64 t4, .bool t5, .int .i32 t6, .bool t7, .slice ao m ac] 52
  rwa [show ((wx.alloc (.cells #[.pointer (some ⟨P.bG, 0, none⟩)] 83)).alloc (.cells #[.int .i64 id] 3)).heap.size = wx.heap.size + 1 + 1 by simp] at h2
theorem AE.boxesT_cells {W' : World} {s' : St} {c' : Ct} {id : Int} {t0 : Int} {t1 t2 t3 : ByteArray} {t4 : Int} {t5 : Bool} {t6 : Int} {t7 : Bool} {ao : Option Addr} {m ac : Nat} (hW : AE w W' P s' c' (((rest ++ [blkOb _ wx.heap.size #[.pointer (some ⟨P.bG, 0, none⟩)] 83]) ++ [blkOb _ (wx.heap.size + 1) #[.int .i64 id] 3]) ++ [blkOb _ (wx.heap.size + 1 + 1) #[.int .i64 t0, .string t1, .string t2, .string t3, .int .i64 t4, .bool t5, .int .i32 t6, .bool t7, .slice ao m ac] 52])) : W'.cell? ⟨wx.heap.size, 0, none⟩ = some (.pointer (some ⟨P.bG, 0, none⟩)) ∧ W'.cell? ⟨wx.heap.size + 1, 0, none⟩ = some (.int .i64 id) ∧ W'.cell? ⟨wx.heap.size + 1 + 1, 0, none⟩ = some (.int .i64 t0) ∧ W'.cell? ⟨wx.heap.size + 1 + 1, 1, none⟩ = some (.string t1) ∧ W'.cell? ⟨wx.heap.size + 1 + 1, 2, none⟩ = some (.string t2) ∧ W'.cell? ⟨wx.heap.size + 1 + 1, 3, none⟩ = some (.string t3) ∧ W'.cell? ⟨wx.heap.size + 1 + 1, 4, none⟩ = some (.int .i64 t4) ∧ W'.cell? ⟨wx.heap.size + 1 + 1, 5, none⟩ = some (.bool t5) ∧ W'.cell? ⟨wx.heap.size + 1 + 1, 6, none⟩ = some (.int .i32 t6) ∧ W'.cell? ⟨wx.heap.size + 1 + 1, 7, none⟩ = some (.bool t7) ∧ W'.cell? ⟨wx.heap.size + 1 + 1, 8, none⟩ = some (.slice ao m ac) ∧ W'.cell? ⟨P.bG, 2, none⟩ = some (.pointer (some ⟨P.bL, 0, none⟩)) ∧ W'.cell? ⟨P.bG, 6, none⟩ = some (.int .i64 s'.mark) := by
  have b1 := hW.block (i := rest.length) (three_at _ _ _ _).1
  have b2 := hW.block (i := rest.length + 1) (three_at _ _ _ _).2.1
  have b3 := hW.block (i := rest.length + 1 + 1) (three_at _ _ _ _).2.2
  exact ⟨cell_of_row _ _ 0 _ _ _ b1, cell_of_row _ _ 0 _ _ _ b2, cell_of_row _ _ 0 _ _ _ b3, cell_of_row _ _ 1 _ _ _ b3, cell_of_row _ _ 2 _ _ _ b3, cell_of_row _ _ 3 _ _ _ b3, cell_of_row _ _ 4 _ _ _ b3, cell_of_row _ _ 5 _ _ _ b3, cell_of_row _ _ 6 _ _ _ b3, cell_of_row _ _ 7 _ _ _ b3, cell_of_row _ _ 8 _ _ _ b3, hW.cells.2.2.1, hW.cells.2.2.2.2.2.2⟩
set_option maxHeartbeats 2000000 in
theorem genter_any (h : AE w wx P s c rest) (hi : Inv s n) (hc : c.cnt < 1000000000) (id : Int) (t : TokM) (ha : t.attrs = []) (ao : Option Addr) (ac : Nat) : Calls Tryz.prog 173 #[.pointer (some ⟨P.bG, 0, none⟩), .int .i64 id, .agg (t.cells (.slice ao t.attrs.length ac)).toArray] wx fun e w' => e = .returned (.tuple #[]) ∧ AE w w' P (enterP s id t) ⟨c.another, c.errs, c.cnt + 1⟩ rest := by
  have hmf : ∀ (fn : Fn) (first cap : Array Value) (w : World), (Instr.makeFunc fn first cap).run Tryz.prog w = .ok (.func fn first cap) w := fun _ _ _ _ => rfl
  have HPT0 : ∀ W (r : List (Ob w.heap.size)), AE w W P s c r → Calls Tryz.prog 126 #[.pointer (some ⟨P.bL, 0, none⟩), .int .i64 s.mark, .int .i64 id, .agg (t.cells (.slice ao t.attrs.length ac)).toArray] W fun e w' => e = .returned (.int .i64 (putA (keysO s.os) s.es s.mark id)) ∧ AE w w' P (enterP s id t) c r := fun W r hW => ae_lput hW hi s.mark id t ao ac ⟨fun i x hx => by rw [ha] at hx; simp at hx⟩ (by rw [ha]; simp)
  have hmk : (enterP s id t).mark = s.mark := rfl
  generalize hE : enterP s id t = sE at *
  generalize putA (keysO s.os) s.es s.mark id = eA at *
  clear ha hE
  obtain ⟨t0, t1, t2, t3, t4, t5, t6, t7, ta⟩ := t
  simp only [TokM.cells] at *
  generalize ta.length = m at *
  have HMK := hide hmk
  clear hmk
  have hae := h.boxesT id t0 t1 t2 t3 t4 t5 t6 t7 ao m ac
  have HS : Hid (∀ W' (s' : St) (c' : Ct), AE w W' P s' c' (((rest ++ [blkOb _ wx.heap.size #[.pointer (some ⟨P.bG, 0, none⟩)] 83]) ++ [blkOb _ (wx.heap.size + 1) #[.int .i64 id] 3]) ++ [blkOb _ (wx.heap.size + 1 + 1) #[.int .i64 t0, .string t1, .string t2, .string t3, .int .i64 t4, .bool t5, .int .i32 t6, .bool t7, .slice ao m ac] 52]) → W'.cell? ⟨wx.heap.size, 0, none⟩ = some (.pointer (some ⟨P.bG, 0, none⟩)) ∧ W'.cell? ⟨wx.heap.size + 1, 0, none⟩ = some (.int .i64 id) ∧ W'.cell? ⟨wx.heap.size + 1 + 1, 0, none⟩ = some (.int .i64 t0) ∧ W'.cell? ⟨wx.heap.size + 1 + 1, 1, none⟩ = some (.string t1) ∧ W'.cell? ⟨wx.heap.size + 1 + 1, 2, none⟩ = some (.string t2) ∧ W'.cell? ⟨wx.heap.size + 1 + 1, 3, none⟩ = some (.string t3) ∧ W'.cell? ⟨wx.heap.size + 1 + 1, 4, none⟩ = some (.int .i64 t4) ∧ W'.cell? ⟨wx.heap.size + 1 + 1, 5, none⟩ = some (.bool t5) ∧ W'.cell? ⟨wx.heap.size + 1 + 1, 6, none⟩ = some (.int .i32 t6) ∧ W'.cell? ⟨wx.heap.size + 1 + 1, 7, none⟩ = some (.bool t7) ∧ W'.cell? ⟨wx.heap.size + 1 + 1, 8, none⟩ = some (.slice ao m ac) ∧ W'.cell? ⟨P.bG, 2, none⟩ = some (.pointer (some ⟨P.bL, 0, none⟩)) ∧ W'.cell? ⟨P.bG, 6, none⟩ = some (.int .i64 s'.mark)) := hide (fun W' s' c' hW => hW.boxesT_cells)
  have HPT := hide (fun W (hW : AE w W P s c (((rest ++ [blkOb _ wx.heap.size #[.pointer (some ⟨P.bG, 0, none⟩)] 83]) ++ [blkOb _ (wx.heap.size + 1) #[.int .i64 id] 3]) ++ [blkOb _ (wx.heap.size + 1 + 1) #[.int .i64 t0, .string t1, .string t2, .string t3, .int .i64 t4, .bool t5, .int .i32 t6, .bool t7, .slice ao m ac] 52])) => HPT0 W _ hW)
  have HCH := hide (fun W (s' : St) (e : Int) (fn : Fn) (fi ca : Array Value) (hW : AE w W P s' c (((rest ++ [blkOb _ wx.heap.size #[.pointer (some ⟨P.bG, 0, none⟩)] 83]) ++ [blkOb _ (wx.heap.size + 1) #[.int .i64 id] 3]) ++ [blkOb _ (wx.heap.size + 1 + 1) #[.int .i64 t0, .string t1, .string t2, .string t3, .int .i64 t4, .bool t5, .int .i32 t6, .bool t7, .slice ao m ac] 52])) => changed_any hW hc e fn fi ca)
  have HDR := hide (fun W (s' : St) (c' : Ct) (hW : AE w W P s' c' (((rest ++ [blkOb _ wx.heap.size #[.pointer (some ⟨P.bG, 0, none⟩)] 83]) ++ [blkOb _ (wx.heap.size + 1) #[.int .i64 id] 3]) ++ [blkOb _ (wx.heap.size + 1 + 1) #[.int .i64 t0, .string t1, .string t2, .string t3, .int .i64 t4, .bool t5, .int .i32 t6, .bool t7, .slice ao m ac] 52])) => hW.drop1.drop1.drop1)
  have HX := hide hae
  obtain ⟨y0, y1, y2, y3, y4, y5, y6, y7, y8, y9, y10, y11, y12⟩ := (unhide HS) _ _ _ hae
  generalize (((rest ++ [blkOb w.heap.size wx.heap.size #[.pointer (some ⟨P.bG, 0, none⟩)] 83]) ++ [blkOb w.heap.size (wx.heap.size + 1) #[.int .i64 id] 3]) ++ [blkOb w.heap.size (wx.heap.size + 1 + 1) #[.int .i64 t0, .string t1, .string t2, .string t3, .int .i64 t4, .bool t5, .int .i32 t6, .bool t7, .slice ao m ac] 52]) = rest2 at *
  clear h hi hc hae HPT0
  go_enter Tryz.func173, Tryz.ntmps173
  go_wp2
  generalize ((wx.alloc (.cells #[.pointer (some ⟨P.bG, 0, none⟩)] 83)).alloc (.cells #[.int .i64 id] 3)).alloc (.cells #[.int .i64 t0, .string t1, .string t2, .string t3, .int .i64 t4, .bool t5, .int .i32 t6, .bool t7, .slice ao m ac] 52) = W0 at *
  go_region_held3 (fun W' => W'.cell? ⟨wx.heap.size, 0, none⟩ = some (.pointer (some ⟨P.bG, 0, none⟩)) ∧ W'.cell? ⟨wx.heap.size + 1, 0, none⟩ = some (.int .i64 id) ∧ W'.cell? ⟨wx.heap.size + 1 + 1, 0, none⟩ = some (.int .i64 t0) ∧ W'.cell? ⟨wx.heap.size + 1 + 1, 1, none⟩ = some (.string t1) ∧ W'.cell? ⟨wx.heap.size + 1 + 1, 2, none⟩ = some (.string t2) ∧ W'.cell? ⟨wx.heap.size + 1 + 1, 3, none⟩ = some (.string t3) ∧ W'.cell? ⟨wx.heap.size + 1 + 1, 4, none⟩ = some (.int .i64 t4) ∧ W'.cell? ⟨wx.heap.size + 1 + 1, 5, none⟩ = some (.bool t5) ∧ W'.cell? ⟨wx.heap.size + 1 + 1, 6, none⟩ = some (.int .i32 t6) ∧ W'.cell? ⟨wx.heap.size + 1 + 1, 7, none⟩ = some (.bool t7) ∧ W'.cell? ⟨wx.heap.size + 1 + 1, 8, none⟩ = some (.slice ao m ac) ∧ W'.cell? ⟨P.bG, 2, none⟩ = some (.pointer (some ⟨P.bL, 0, none⟩)) ∧ W'.cell? ⟨P.bG, 6, none⟩ = some (.int .i64 s.mark)) (first | (have q := (unhide HS) _ _ _ (unhide HX3); rw [unhide HMK] at q; exact q) | (have q := (unhide HS) _ _ _ (unhide HX2); rw [unhide HMK] at q; exact q) | exact (unhide HS) _ _ _ (unhide HX) | exact (unhide HS) _ _ _ (unhide HX).drew) (first
    | (go_at_call 126; refine ((unhide HPT) _ (by first | exact unhide HX | exact (unhide HX).drew)).mono ?_; rintro e w3 ⟨rfl, he3⟩; have HX2 := hide he3; clear he3)
    | (go_at_call 124; refine ((unhide HCH) _ _ _ _ _ _ (unhide HX2)).mono ?_; rintro e w4 ⟨rfl, he4⟩; have HX3 := hide he4; clear he4))
  all_goals go_wp2
  all_goals exact ⟨rfl, _, results_none rfl _ _ _, rfl, (unhide HDR) _ _ _ (unhide HX3)⟩
end
end Go.Proofs.YtmkdnmkckipnaaaGreat

namespace Go.Proofs.YtmkdnmkckipnaaaGreat
open Go.RowKit

-- M gets what is in B
theorem kidsP_as (m : Int) : ∀ (l : List Nat) (s : St), (kidsP m s l).L = s.L ∧ (kidsP m s l).es = s.es ∧ (kidsP m s l).mark = s.mark ∧ Kin s.os (kidsP m s l).os
  | [], s => ⟨rfl, rfl, rfl, Kin.refl _⟩
  | k :: l, s => by
    obtain ⟨h1, h2, h3, h4⟩ := kidsP_as m l (putP s m (-1) (k : Int))
    exact ⟨h1, h2, h3, (kin_spot s.os m (-1) (k : Int)).trans h4⟩
theorem kidsP_snoc (m : Int) (s : St) (l : List Nat) (k : Nat) : kidsP m s (l ++ [k]) = putP (kidsP m s l) m (-1) (k : Int) := by
  unfold kidsP
  rw [List.foldl_append]
  rfl
theorem Inv.kids {s : St} {n : Nat} (h : Inv s n) (m : Int) (l : List Nat) : Inv (kidsP m s l) n := by
  obtain ⟨h1, h2, h3, h4⟩ := kidsP_as m l s
  have := h.kin h4
  exact ⟨by rw [h1]; exact this.good, by rw [h2]; exact this.ent, this.few, by rw [h2]; exact this.less, this.one⟩
theorem fillP_as (s : St) (f b : Int) : (fillP s f b).L = s.L ∧ (fillP s f b).es = s.es ∧ (fillP s f b).mark = s.mark ∧ Kin (newP s f).os (fillP s f b).os := by
  obtain ⟨h1, h2, h3, h4⟩ := kidsP_as (newI s f) (kidsO (newR s f).1 b) (newP s f)
  exact ⟨h1, h2, h3, h4.trans (kin_spot _ _ _ _)⟩
theorem fillP_inv {s : St} {n : Nat} (f b : Int) (h : Inv (newP s f) n) : Inv (fillP s f b) n := (h.kids _ _).put _ _ _
/-- What replace needs. -/
structure RpI (s : St) (f b : Int) (N : Nat) : Prop where
  inv : Inv s N
  plc : 0 ≤ placeE s.es f
  mrk : s.mark ≤ 1000000
  hb : hasO s.os b = true
  room : s.os.length + 2 ≤ 32768
section
variable {s : St} {f b : Int} {N : Nat}
theorem RpI.new (h : RpI s f b N) : NewS s f ∧ Inv (newP s f) (s.os.length + 2) := new_ok h.inv h.room h.plc
theorem RpI.fill (h : RpI s f b N) : Inv (fillP s f b) (s.os.length + 2) := fillP_inv f b h.new.2
theorem RpI.plc2 (h : RpI s f b N) : 0 ≤ placeE (fillP s f b).es f := by rw [(fillP_as s f b).2.1]; exact h.plc
theorem RpI.mrk2 (h : RpI s f b N) : (fillP s f b).mark ≤ 1000000 := by rw [(fillP_as s f b).2.2.1]; exact h.mrk
theorem RpI.tok (_ : RpI s f b N) : tokE (fillP s f b).es f = tokE s.es f := by rw [(fillP_as s f b).2.1]
theorem RpI.drop (h : RpI s f b N) : Inv (dropP (fillP s f b) f) (s.os.length + 2) ∧ (dropP (fillP s f b) f).mark ≤ 1000000 ∧ (dropP (fillP s f b) f).es.length < 100000 := by
  refine ⟨h.fill.drop f, dropP_mark _ _ h.mrk2, ?_⟩
  have := delE_lt h.plc2
  have := h.fill.less
  unfold dropP
  simp only
  omega
theorem RpI.key (h : RpI s f b N) : keyAt (keysO (dropP (fillP s f b) f).os) (newI s f) = some ⟨1, 0, (tokE (fillP s f b).es f).name⟩ := by
  rw [h.tok]
  have e : keysO (dropP (fillP s f b) f).os = keysO (newP s f).os := (fillP_as s f b).2.2.2.keys
  rw [e]
  exact h.new.1.key
theorem RpI.none (h : RpI s f b N) : (tokE (fillP s f b).es f).attrs = [] ∧ longS (tokE (fillP s f b).es f).name = false := tok_none h.fill h.plc2
theorem RpI.enter (h : RpI s f b N) : Inv (enterP (dropP (fillP s f b) f) (newI s f) (tokE (fillP s f b).es f)) (s.os.length + 2) := h.drop.1.enter _ _ h.key h.none.2 h.none.1 h.drop.2.2
theorem RpI.leave (h : RpI s f b N) : Inv (leaveP (enterP (dropP (fillP s f b) f) (newI s f) (tokE (fillP s f b).es f)) f) (s.os.length + 2) := h.enter.leave f
theorem RpI.out (h : RpI s f b N) : Inv (replaceP s f b) (s.os.length + 2) ∧ (replaceP s f b).mark ≤ 1000000 ∧ s.os.length ≤ (replaceP s f b).os.length := by
  refine ⟨h.leave.stand _ _, h.drop.2.1, ?_⟩
  have e : (replaceP s f b).os.length = (newP s f).os.length := (fillP_as s f b).2.2.2.len
  rw [e]
  exact h.new.1.more.1
end
/-- What a round needs. -/
structure AdI (s : St) (f b : Int) (N : Nat) : Prop where
  inv : Inv s N
  plc : 0 ≤ placeE s.es f
  room : N + 8 ≤ 32768
  fin : f ∈ s.L.take (findM s.L b).toNat
  bin : b ∈ s.L
section
variable {s : St} {f b : Int} {N : Nat}
theorem AdI.mem (h : AdI s f b N) : f ∈ s.L := List.mem_of_mem_take h.fin
theorem AdI.find (h : AdI s f b N) : ∃ k : Nat, findM s.L b = (k : Int) ∧ k < s.L.length := by
  obtain ⟨k, h1, h2, _⟩ := findM_nat (L := s.L) (f := b) (by unfold findM; rw [if_pos h.bin]; omega)
  exact ⟨k, h1, h2⟩
theorem AdI.start (h : AdI s f b N) : RI f b N (findM s.L b).toNat 1 s.L s.os.length (markP s (placeE s.es f)) b := by
  obtain ⟨k, hk, hl⟩ := h.find
  have hfew := h.inv.few
  refine ⟨(h.inv.mark _).mono (by omega), by simp only [markP]; omega, h.plc, ?_, rfl, by rw [hk]; simp only [markP, Int.toNat_natCast]; omega, h.fin, hasO_el h.inv.good h.bin, hasO_el h.inv.good h.bin, Nat.le_refl _, h.inv.less⟩
  have := place_mk h.inv.less f
  simp only [markP]
  omega
theorem AdI.renew (h : AdI s f b N) : RX f b N s.os.length (renewF s f b).1 (renewF s f b).2 := renewP_ok h.room h.start
theorem AdI.move (h : AdI s f b N) (foster : Bool) : RpI (moveP (renewF s f b).1 (belowP s.L f) (renewF s f b).2 foster) f b (N + 6) := by
  have hx := h.renew
  have hl : (moveP (renewF s f b).1 (belowP s.L f) (renewF s f b).2 foster).os.length = (renewF s f b).1.os.length := putP_len _ _ _ _
  have hf := hx.inv.few
  have hr := h.room
  exact ⟨hx.inv.put _ _ _, hx.plc, hx.mrk, hasO_le (by rw [hl]; exact Nat.le_refl _) hx.hb, by rw [hl]; omega⟩
theorem AdI.out (h : AdI s f b N) (foster : Bool) : Inv (adoptP s f b foster) (N + 8) ∧ (adoptP s f b foster).mark ≤ 1000000 ∧ s.os.length ≤ (adoptP s f b foster).os.length := by
  have hm := (h.move foster).out
  have hf := (h.move foster).inv.few
  have hl : (moveP (renewF s f b).1 (belowP s.L f) (renewF s f b).2 foster).os.length = (renewF s f b).1.os.length := putP_len _ _ _ _
  refine ⟨hm.1.mono (by omega), hm.2.1, Nat.le_trans ?_ hm.2.2⟩
  rw [hl]
  exact h.renew.old
end
theorem specP_at (ks : List Key) (L : List Int) : ∀ (n i : Nat), specP ks L n i = -1 ∨ ∃ j : Nat, i ≤ j ∧ j < i + n ∧ specP ks L n i = atM L (j : Int)
  | 0, _ => .inl rfl
  | n + 1, i => by
    unfold specP
    split
    · exact .inr ⟨i, Nat.le_refl _, by omega, rfl⟩
    · rcases specP_at ks L n (i + 1) with e | ⟨j, h1, h2, h3⟩
      · exact .inl e
      · exact .inr ⟨j, by omega, by omega, h3⟩
theorem adI_of {s : St} {N : Nat} (h : Inv s N) (hN : N + 8 ≤ 32768) {f : Int} (hp : 0 ≤ placeE s.es f) (hf : 0 ≤ findM s.L f) (hb : blockP (keysO s.os) s.L f ≠ -1) : AdI s f (blockP (keysO s.os) s.L f) N := by
  obtain ⟨k, hk, hkl, hkf⟩ := findM_nat hf
  unfold blockP at hb ⊢
  rw [hk, Int.toNat_natCast] at hb ⊢
  rcases specP_at (keysO s.os) s.L (s.L.length - (k + 1)) (k + 1) with e | ⟨j, h1, h2, h3⟩
  · exact absurd e hb
  · rw [h3]
    have hj : j < s.L.length := by omega
    have hfj : findM s.L (atM s.L (j : Int)) = (j : Int) := by
      unfold findM
      rw [if_pos (mem_at hj), idx_at h.good.nodup hj]
    refine ⟨h, hp, hN, ?_, mem_at hj⟩
    rw [hfj, Int.toNat_natCast]
    exact List.mem_of_getElem? (i := k) (by rw [List.getElem?_take, if_pos (by omega)]; exact hkf)
theorem round_ok {s : St} {N : Nat} (h : Inv s N) (hN : N + 8 ≤ 32768) (hm : s.mark ≤ 1000000) (name : ByteArray) (foster : Bool) (errs : Int) : Inv (roundP name foster s errs).s (N + 8) ∧ (roundP name foster s errs).s.mark ≤ 1000000 ∧ errs ≤ (roundP name foster s errs).errs ∧ (roundP name foster s errs).errs ≤ errs + 1 := by
  have hm8 := h.mono (show N ≤ N + 8 by omega)
  unfold roundP
  split
  · exact ⟨hm8, hm, by simp only; omega, by simp only; omega⟩
  · rename_i h1
    split
    · exact ⟨hm8.drop _, dropP_mark _ _ hm, by simp only; omega, by simp only; omega⟩
    · rename_i h2
      split
      · exact ⟨hm8, hm, by simp only; omega, by simp only; omega⟩
      · split
        · refine ⟨(hm8.takeL _).drop _, dropP_mark _ _ hm, ?_, ?_⟩ <;> (simp only; split <;> omega)
        · rename_i h4
          have ha := (adI_of h hN (place_last h1) (by omega) h4).out foster
          refine ⟨ha.1, ha.2.1, ?_, ?_⟩ <;> (simp only; split <;> omega)
theorem rounds_ok (name : ByteArray) (foster : Bool) : ∀ (k : Nat) {s : St} {N : Nat}, Inv s N → N + 8 * k ≤ 32768 → s.mark ≤ 1000000 → ∀ (errs : Int), Inv (roundsP name foster k s errs).1 (N + 8 * k) ∧ errs ≤ (roundsP name foster k s errs).2.2 ∧ (roundsP name foster k s errs).2.2 ≤ errs + k
  | 0, s, N, h, _, _, errs => ⟨h, Int.le_refl _, by simp [roundsP]⟩
  | k + 1, s, N, h, hN, hm, errs => by
    have h1 := round_ok h (by omega) hm name foster errs
    unfold roundsP
    split
    · have h2 := rounds_ok name foster k h1.1 (by omega) h1.2.1 (roundP name foster s errs).errs
      refine ⟨h2.1.mono (by omega), ?_, ?_⟩
      · have := h2.2.1; omega
      · have := h2.2.2; have := h1.2.2.2; push_cast; omega
    · refine ⟨h1.1.mono (by omega), h1.2.2.1, ?_⟩
      have := h1.2.2.2
      simp only
      push_cast
      omega
end Go.Proofs.YtmkdnmkckipnaaaGreat

namespace Go.Proofs.YtmkdnmkckipnaaaGreat
open Go.RowKit Go.Sort

section
variable {w wx : World} {P : Pt} {s : St} {c : Ct} {rest : List (Ob w.heap.size)} {n : Nat}
set_option maxHeartbeats 2000000 in
theorem gleave_any (h : AE w wx P s c rest) (hi : Inv s n) (hc : c.cnt < 1000000000) (id : Int) : Calls Tryz.prog 158 #[.pointer (some ⟨P.bG, 0, none⟩), .int .i64 id] wx fun e w' => e = .returned (.tuple #[]) ∧ AE w w' P (leaveP s id) ⟨c.another, c.errs, c.cnt + 1⟩ rest := by
  have hmf : ∀ (fn : Fn) (first cap : Array Value) (w : World), (Instr.makeFunc fn first cap).run Tryz.prog w = .ok (.func fn first cap) w := fun _ _ _ _ => rfl
  have hae := h.boxes (Dk.start wx P.bG id)
  have HS := hide (fun W (s' : St) (c' : Ct) (hW : AE w W P s' c' ((rest ++ [blkOb _ wx.heap.size #[.pointer (some ⟨P.bG, 0, none⟩)] 83]) ++ [blkOb _ (wx.heap.size + 1) #[.int .i64 id] 3])) => hW.boxes_cells)
  have HPT := hide (fun W (hW : AE w W P s c ((rest ++ [blkOb _ wx.heap.size #[.pointer (some ⟨P.bG, 0, none⟩)] 83]) ++ [blkOb _ (wx.heap.size + 1) #[.int .i64 id] 3])) => ae_sremove hW hi id)
  have HFI := hide (fun W (hW : AE w W P s c ((rest ++ [blkOb _ wx.heap.size #[.pointer (some ⟨P.bG, 0, none⟩)] 83]) ++ [blkOb _ (wx.heap.size + 1) #[.int .i64 id] 3])) => ae_sfind hW hi id)
  have HCH := hide (fun W (s' : St) (e : Int) (fn : Fn) (fi ca : Array Value) (hW : AE w W P s' c ((rest ++ [blkOb _ wx.heap.size #[.pointer (some ⟨P.bG, 0, none⟩)] 83]) ++ [blkOb _ (wx.heap.size + 1) #[.int .i64 id] 3])) => changed_any hW hc e fn fi ca)
  have HDR := hide (fun W (s' : St) (c' : Ct) (hW : AE w W P s' c' ((rest ++ [blkOb _ wx.heap.size #[.pointer (some ⟨P.bG, 0, none⟩)] 83]) ++ [blkOb _ (wx.heap.size + 1) #[.int .i64 id] 3])) => hW.drop1.drop1)
  have HX := hide hae
  obtain ⟨y0, y1, y2, y3, y4⟩ := (unhide HS) _ _ _ hae
  generalize (rest ++ [blkOb w.heap.size wx.heap.size #[.pointer (some ⟨P.bG, 0, none⟩)] 83]) ++ [blkOb w.heap.size (wx.heap.size + 1) #[.int .i64 id] 3] = rest2 at *
  clear h hi hc hae
  go_enter Tryz.func158, Tryz.ntmps158
  go_wp2
  rename_i Q1 K1 hK1
  have HL : Hid (∀ (W : World) (bi : Nat) (u5 u6 u7 u8 u9 u10 u11 u12 u13 u14 u15 u16 u17 u18 u19 : Value), AE w W P s c rest2 → K1 { tmps := #[.pointer (some ⟨P.bG, 0, none⟩), .int .i64 id, .pointer (some ⟨wx.heap.size, 0, none⟩), .pointer (some ⟨wx.heap.size + 1, 0, none⟩), .pointer (some ⟨bi, 0, none⟩), u5, u6, u7, u8, u9, u10, u11, u12, u13, u14, u15, u16, u17, u18, u19], defers := [] } W) := hide (by
    intro W bi u5 u6 u7 u8 u9 u10 u11 u12 u13 u14 u15 u16 u17 u18 u19 hW
    have HY := hide hW
    clear y0 y1 y2 y3 y4
    obtain ⟨y0, y1, y2, y3, y4⟩ := (unhide HS) _ _ _ hW
    clear hW HX HFI
    apply hK1
    clear hK1
    go_wp2
    go_region_held3 (fun W' => W'.cell? ⟨wx.heap.size, 0, none⟩ = some (.pointer (some ⟨P.bG, 0, none⟩)) ∧ W'.cell? ⟨wx.heap.size + 1, 0, none⟩ = some (.int .i64 id) ∧ W'.cell? ⟨P.bG, 1, none⟩ = some (.pointer (some ⟨P.bK, 0, none⟩))) (first | (have q := (unhide HS) _ _ _ (unhide HX3); exact ⟨q.1, q.2.1, q.2.2.1⟩) | (have q := (unhide HS) _ _ _ (unhide HX2); exact ⟨q.1, q.2.1, q.2.2.1⟩) | (have q := (unhide HS) _ _ _ (unhide HY); exact ⟨q.1, q.2.1, q.2.2.1⟩) | (have q := (unhide HS) _ _ _ (unhide HY).drew; exact ⟨q.1, q.2.1, q.2.2.1⟩)) (first
      | (go_at_call 81; refine ((unhide HPT) _ (by first | exact unhide HY | exact (unhide HY).drew)).mono ?_; rintro e w3 ⟨rfl, he3⟩; have HX2 := hide he3; clear he3)
      | (go_at_call 124; refine ((unhide HCH) _ _ _ _ _ _ (unhide HX2)).mono ?_; rintro e w4 ⟨rfl, he4⟩; have HX3 := hide he4; clear he4))
    all_goals go_wp2
    all_goals exact ⟨rfl, _, results_none rfl _ _ _, rfl, (unhide HDR) _ _ _ (unhide HX3)⟩)
  clear hK1
  generalize (wx.alloc (.cells #[.pointer (some ⟨P.bG, 0, none⟩)] 83)).alloc (.cells #[.int .i64 id] 3) = W0 at *
  have y5 := ((unhide HS) _ _ _ ((unhide HX).more (below_newAc W0 numZ)))
  unfold numZ at y5
  obtain ⟨q0, q1, q2, _⟩ := y5
  go_region_with (first
    | (go_at_call 89; refine ((unhide HFI) _ (by first | exact unhide HX | exact (unhide HX).drew | exact (unhide HX).more (below_newAc _ _) | exact ((unhide HX).more (below_newAc _ _)).drew)).mono ?_; rintro e w1 ⟨rfl, rfl⟩))
  all_goals go_wp2
  all_goals (first | exact (unhide HL) _ _ _ _ _ _ _ _ _ _ _ _ _ _ _ _ _ ((unhide HX).more (below_newAc _ _)).drew | exact (unhide HL) _ _ _ _ _ _ _ _ _ _ _ _ _ _ _ _ _ ((unhide HX).more (below_newAc _ _)))
end
end Go.Proofs.YtmkdnmkckipnaaaGreat
