/-
  The agency: an element leaves the stack, one stands in it. The agency: a new element takes an old one's place, in the list and in the stack. The agency: an element leaves the stack.
-/
import Derived.Test.YtkakncngkmoegaaGreatXGv
namespace Go.Proofs.YtkakncngkmoegaaGreat
open Go.RowKit Go.Sort

section
variable {w wx : World} {P : Pt} {s : St} {c : Ct} {rest : List (Ob w.heap.size)} {n : Nat}
theorem AE.boxes_cells {W : World} {s' : St} {c' : Ct} {id : Int} (hW : AE w W P s' c' ((rest ++ [blkOb _ wx.heap.size #[.pointer (some ⟨P.bG, 0, none⟩)] 83]) ++ [blkOb _ (wx.heap.size + 1) #[.int .i64 id] 3])) : W.cell? ⟨wx.heap.size, 0, none⟩ = some (.pointer (some ⟨P.bG, 0, none⟩)) ∧ W.cell? ⟨wx.heap.size + 1, 0, none⟩ = some (.int .i64 id) ∧ W.cell? ⟨P.bG, 1, none⟩ = some (.pointer (some ⟨P.bK, 0, none⟩)) ∧ W.cell? ⟨P.bG, 2, none⟩ = some (.pointer (some ⟨P.bL, 0, none⟩)) ∧ W.cell? ⟨P.bG, 6, none⟩ = some (.int .i64 s'.mark) :=
  ⟨cell_of_row _ _ 0 _ _ _ (hW.block (i := rest.length) (K := wx.heap.size) (cs := #[.pointer (some ⟨P.bG, 0, none⟩)]) (t := 83) (by simp)), cell_of_row _ _ 0 _ _ _ (hW.block (i := rest.length + 1) (K := wx.heap.size + 1) (cs := #[.int .i64 id]) (t := 3) (by simp)), hW.cells.2.1, hW.cells.2.2.1, hW.cells.2.2.2.2.2.2⟩
set_option maxHeartbeats 2000000 in
theorem gstand_any (h : AE w wx P s c rest) (hi : Inv s n) (hc : c.cnt < 1000000000) (i id : Int) : Calls Tryz.prog 173 #[.pointer (some ⟨P.bG, 0, none⟩), .int .i64 i, .int .i64 id] wx fun e w' => e = .returned (.tuple #[]) ∧ AE w w' P (standP s i id) ⟨c.another, c.errs, c.cnt + 1⟩ rest := by
  have hmf : ∀ (fn : Fn) (first cap : Array Value) (w : World), (Instr.makeFunc fn first cap).run Tryz.prog w = .ok (.func fn first cap) w := fun _ _ _ _ => rfl
  have hae := h.boxes (Dk.start wx P.bG id)
  have HS := hide (fun W (s' : St) (c' : Ct) (hW : AE w W P s' c' ((rest ++ [blkOb _ wx.heap.size #[.pointer (some ⟨P.bG, 0, none⟩)] 83]) ++ [blkOb _ (wx.heap.size + 1) #[.int .i64 id] 3])) => hW.boxes_cells)
  have HPT := hide (fun W (hW : AE w W P s c ((rest ++ [blkOb _ wx.heap.size #[.pointer (some ⟨P.bG, 0, none⟩)] 83]) ++ [blkOb _ (wx.heap.size + 1) #[.int .i64 id] 3])) => ae_sput hW hi i id)
  have HCH := hide (fun W (s' : St) (e : Int) (fn : Fn) (fi ca : Array Value) (hW : AE w W P s' c ((rest ++ [blkOb _ wx.heap.size #[.pointer (some ⟨P.bG, 0, none⟩)] 83]) ++ [blkOb _ (wx.heap.size + 1) #[.int .i64 id] 3])) => changed_any hW hc e fn fi ca)
  have HDR := hide (fun W (s' : St) (c' : Ct) (hW : AE w W P s' c' ((rest ++ [blkOb _ wx.heap.size #[.pointer (some ⟨P.bG, 0, none⟩)] 83]) ++ [blkOb _ (wx.heap.size + 1) #[.int .i64 id] 3])) => hW.drop1.drop1)
  have HX := hide hae
  obtain ⟨y0, y1, y2, y3, y4⟩ := (unhide HS) _ _ _ hae
  generalize (rest ++ [blkOb w.heap.size wx.heap.size #[.pointer (some ⟨P.bG, 0, none⟩)] 83]) ++ [blkOb w.heap.size (wx.heap.size + 1) #[.int .i64 id] 3] = rest2 at *
  clear h hi hc hae
  go_enter Tryz.func173, Tryz.ntmps173
  go_wp2
  generalize (wx.alloc (.cells #[.pointer (some ⟨P.bG, 0, none⟩)] 83)).alloc (.cells #[.int .i64 id] 3) = W0 at *
  go_region_held3 (fun W' => W'.cell? ⟨wx.heap.size, 0, none⟩ = some (.pointer (some ⟨P.bG, 0, none⟩)) ∧ W'.cell? ⟨wx.heap.size + 1, 0, none⟩ = some (.int .i64 id) ∧ W'.cell? ⟨P.bG, 1, none⟩ = some (.pointer (some ⟨P.bK, 0, none⟩))) (first | (have q := (unhide HS) _ _ _ (unhide HX3); exact ⟨q.1, q.2.1, q.2.2.1⟩) | (have q := (unhide HS) _ _ _ (unhide HX2); exact ⟨q.1, q.2.1, q.2.2.1⟩) | (have q := (unhide HS) _ _ _ (unhide HX); exact ⟨q.1, q.2.1, q.2.2.1⟩) | (have q := (unhide HS) _ _ _ (unhide HX).drew; exact ⟨q.1, q.2.1, q.2.2.1⟩)) (first
    | (go_at_call 189; refine ((unhide HPT) _ (by first | exact unhide HX | exact (unhide HX).drew)).mono ?_; rintro e w3 ⟨rfl, he3⟩; have HX2 := hide he3; clear he3)
    | (go_at_call 124; refine ((unhide HCH) _ _ _ _ _ _ (unhide HX2)).mono ?_; rintro e w4 ⟨rfl, he4⟩; have HX3 := hide he4; clear he4))
  all_goals go_wp2
  all_goals exact ⟨rfl, _, results_none rfl _ _ _, rfl, (unhide HDR) _ _ _ (unhide HX3)⟩
end
end Go.Proofs.YtkakncngkmoegaaGreat

namespace Go.Proofs.YtkakncngkmoegaaGreat
open Go.RowKit Go.Sort

theorem three_at {α : Type} (l : List α) (a b c : α) : (((l ++ [a]) ++ [b]) ++ [c])[l.length]? = some a ∧ (((l ++ [a]) ++ [b]) ++ [c])[l.length + 1]? = some b ∧ (((l ++ [a]) ++ [b]) ++ [c])[l.length + 1 + 1]? = some c := by
  rw [List.append_assoc, List.append_assoc]
  refine ⟨?_, ?_, ?_⟩ <;> rw [List.getElem?_append_right (by omega)]
  · simp
  · rw [show l.length + 1 - l.length = 1 by omega]; rfl
  · rw [show l.length + 1 + 1 - l.length = 2 by omega]; rfl
section
variable {w wx : World} {P : Pt} {s : St} {c : Ct} {rest : List (Ob w.heap.size)} {n : Nat}
theorem AE.boxes3 (h : AE w wx P s c rest) (old id : Int) : AE w (((wx.alloc (.cells #[.pointer (some ⟨P.bG, 0, none⟩)] 83)).alloc (.cells #[.int .i64 old] 3)).alloc (.cells #[.int .i64 id] 3)) P s c (((rest ++ [blkOb _ wx.heap.size #[.pointer (some ⟨P.bG, 0, none⟩)] 83]) ++ [blkOb _ (wx.heap.size + 1) #[.int .i64 old] 3]) ++ [blkOb _ (wx.heap.size + 1 + 1) #[.int .i64 id] 3]) := by
  have h2 := (h.boxes (Dk.start wx P.bG old)).boxed #[.int .i64 id] 3
  rwa [show ((wx.alloc (.cells #[.pointer (some ⟨P.bG, 0, none⟩)] 83)).alloc (.cells #[.int .i64 old] 3)).heap.size = wx.heap.size + 1 + 1 by simp] at h2
theorem AE.boxes3_cells {W : World} {s' : St} {c' : Ct} {old id : Int} (hW : AE w W P s' c' (((rest ++ [blkOb _ wx.heap.size #[.pointer (some ⟨P.bG, 0, none⟩)] 83]) ++ [blkOb _ (wx.heap.size + 1) #[.int .i64 old] 3]) ++ [blkOb _ (wx.heap.size + 1 + 1) #[.int .i64 id] 3])) : W.cell? ⟨wx.heap.size, 0, none⟩ = some (.pointer (some ⟨P.bG, 0, none⟩)) ∧ W.cell? ⟨wx.heap.size + 1, 0, none⟩ = some (.int .i64 old) ∧ W.cell? ⟨wx.heap.size + 1 + 1, 0, none⟩ = some (.int .i64 id) ∧ W.cell? ⟨P.bG, 1, none⟩ = some (.pointer (some ⟨P.bK, 0, none⟩)) ∧ W.cell? ⟨P.bG, 2, none⟩ = some (.pointer (some ⟨P.bL, 0, none⟩)) :=
  ⟨cell_of_row _ _ 0 _ _ _ (hW.block (i := rest.length) (K := wx.heap.size) (cs := #[.pointer (some ⟨P.bG, 0, none⟩)]) (t := 83) (three_at _ _ _ _).1), cell_of_row _ _ 0 _ _ _ (hW.block (i := rest.length + 1) (K := wx.heap.size + 1) (cs := #[.int .i64 old]) (t := 3) (three_at _ _ _ _).2.1), cell_of_row _ _ 0 _ _ _ (hW.block (i := rest.length + 1 + 1) (K := wx.heap.size + 1 + 1) (cs := #[.int .i64 id]) (t := 3) (three_at _ _ _ _).2.2), hW.cells.2.1, hW.cells.2.2.1⟩
set_option maxHeartbeats 2000000 in
theorem gswap_any (h : AE w wx P s c rest) (hi : Inv s n) (hc : c.cnt < 1000000000 - 1) (old id : Int) (hid : placeE s.es old < 0 ∨ keyAt (keysO s.os) id = some ⟨1, 0, (tokE s.es old).name⟩) : Calls Tryz.prog 159 #[.pointer (some ⟨P.bG, 0, none⟩), .int .i64 old, .int .i64 id] wx fun e w' => e = .returned (.tuple #[]) ∧ AE w w' P (swapP s old id) ⟨c.another, c.errs, c.cnt + 1 + 1⟩ rest := by
  have hmf : ∀ (fn : Fn) (first cap : Array Value) (w : World), (Instr.makeFunc fn first cap).run Tryz.prog w = .ok (.func fn first cap) w := fun _ _ _ _ => rfl
  have hae := h.boxes3 old id
  have hi2 : Inv ⟨s.os, s.L, swapEAc (keysO s.os) s.es old id, s.mark⟩ n := by
    have := hi.swap old id hid
    exact ⟨hi.good, this.ent, hi.few, this.less, hi.one⟩
  have HS : Hid (∀ W (s' : St) (c' : Ct), AE w W P s' c' (((rest ++ [blkOb _ wx.heap.size #[.pointer (some ⟨P.bG, 0, none⟩)] 83]) ++ [blkOb _ (wx.heap.size + 1) #[.int .i64 old] 3]) ++ [blkOb _ (wx.heap.size + 1 + 1) #[.int .i64 id] 3]) → W.cell? ⟨wx.heap.size, 0, none⟩ = some (.pointer (some ⟨P.bG, 0, none⟩)) ∧ W.cell? ⟨wx.heap.size + 1, 0, none⟩ = some (.int .i64 old) ∧ W.cell? ⟨wx.heap.size + 1 + 1, 0, none⟩ = some (.int .i64 id) ∧ W.cell? ⟨P.bG, 1, none⟩ = some (.pointer (some ⟨P.bK, 0, none⟩)) ∧ W.cell? ⟨P.bG, 2, none⟩ = some (.pointer (some ⟨P.bL, 0, none⟩))) := hide (fun W s' c' hW => hW.boxes3_cells)
  have HLS := hide (fun W (hW : AE w W P s c (((rest ++ [blkOb _ wx.heap.size #[.pointer (some ⟨P.bG, 0, none⟩)] 83]) ++ [blkOb _ (wx.heap.size + 1) #[.int .i64 old] 3]) ++ [blkOb _ (wx.heap.size + 1 + 1) #[.int .i64 id] 3])) => ae_lswap hW hi old id)
  have HSS := hide (fun W (c' : Ct) (hW : AE w W P ⟨s.os, s.L, swapEAc (keysO s.os) s.es old id, s.mark⟩ c' (((rest ++ [blkOb _ wx.heap.size #[.pointer (some ⟨P.bG, 0, none⟩)] 83]) ++ [blkOb _ (wx.heap.size + 1) #[.int .i64 old] 3]) ++ [blkOb _ (wx.heap.size + 1 + 1) #[.int .i64 id] 3])) => ae_sswap hW hi2 old id)
  have HCH := hide (fun W (s' : St) (c' : Ct) (e : Int) (fn : Fn) (fi ca : Array Value) (hc' : c'.cnt < 1000000000) (hW : AE w W P s' c' (((rest ++ [blkOb _ wx.heap.size #[.pointer (some ⟨P.bG, 0, none⟩)] 83]) ++ [blkOb _ (wx.heap.size + 1) #[.int .i64 old] 3]) ++ [blkOb _ (wx.heap.size + 1 + 1) #[.int .i64 id] 3])) => changed_any hW hc' e fn fi ca)
  have HDR := hide (fun W (s' : St) (c' : Ct) (hW : AE w W P s' c' (((rest ++ [blkOb _ wx.heap.size #[.pointer (some ⟨P.bG, 0, none⟩)] 83]) ++ [blkOb _ (wx.heap.size + 1) #[.int .i64 old] 3]) ++ [blkOb _ (wx.heap.size + 1 + 1) #[.int .i64 id] 3])) => hW.drop1.drop1.drop1)
  have HX := hide hae
  have HC1 := hide (show c.cnt < 1000000000 by omega)
  have HC2 : Hid (c.cnt + 1 < 1000000000) := hide (by omega)
  obtain ⟨y0, y1, y2, y3, y4⟩ := (unhide HS) _ _ _ hae
  generalize ((rest ++ [blkOb w.heap.size wx.heap.size #[.pointer (some ⟨P.bG, 0, none⟩)] 83]) ++ [blkOb w.heap.size (wx.heap.size + 1) #[.int .i64 old] 3]) ++ [blkOb w.heap.size (wx.heap.size + 1 + 1) #[.int .i64 id] 3] = rest2 at *
  clear h hi hi2 hc hae hid
  go_enter Tryz.func159, Tryz.ntmps159
  go_wp2
  generalize ((wx.alloc (.cells #[.pointer (some ⟨P.bG, 0, none⟩)] 83)).alloc (.cells #[.int .i64 old] 3)).alloc (.cells #[.int .i64 id] 3) = W0 at *
  go_region_held3 (fun W' => W'.cell? ⟨wx.heap.size, 0, none⟩ = some (.pointer (some ⟨P.bG, 0, none⟩)) ∧ W'.cell? ⟨wx.heap.size + 1, 0, none⟩ = some (.int .i64 old) ∧ W'.cell? ⟨wx.heap.size + 1 + 1, 0, none⟩ = some (.int .i64 id) ∧ W'.cell? ⟨P.bG, 1, none⟩ = some (.pointer (some ⟨P.bK, 0, none⟩)) ∧ W'.cell? ⟨P.bG, 2, none⟩ = some (.pointer (some ⟨P.bL, 0, none⟩))) (first | exact (unhide HS) _ _ _ (unhide HX3) | exact (unhide HS) _ _ _ (unhide HX2) | exact (unhide HS) _ _ _ (unhide HX) | exact (unhide HS) _ _ _ (unhide HX).drew) (first
    | (go_at_call 190; refine ((unhide HLS) _ (by first | exact unhide HX | exact (unhide HX).drew)).mono ?_; rintro e w3 ⟨rfl, he3⟩; have HX2 := hide he3; clear he3)
    | (go_at_call 124; refine ((unhide HCH) _ _ _ _ _ _ _ (unhide HC1) (unhide HX2)).mono ?_; rintro e w4 ⟨rfl, he4⟩; have HX3 := hide he4; clear he4))
  all_goals clear y0 y1 y2 y3 y4
  all_goals obtain ⟨y0, y1, y2, y3, y4⟩ := (unhide HS) _ _ _ (unhide HX3)
  all_goals go_wp2
  all_goals go_region_held3 (fun W' => W'.cell? ⟨wx.heap.size, 0, none⟩ = some (.pointer (some ⟨P.bG, 0, none⟩)) ∧ W'.cell? ⟨wx.heap.size + 1, 0, none⟩ = some (.int .i64 old) ∧ W'.cell? ⟨wx.heap.size + 1 + 1, 0, none⟩ = some (.int .i64 id) ∧ W'.cell? ⟨P.bG, 1, none⟩ = some (.pointer (some ⟨P.bK, 0, none⟩)) ∧ W'.cell? ⟨P.bG, 2, none⟩ = some (.pointer (some ⟨P.bL, 0, none⟩))) (first | exact (unhide HS) _ _ _ (unhide HX5) | exact (unhide HS) _ _ _ (unhide HX4) | exact (unhide HS) _ _ _ (unhide HX3) | exact (unhide HS) _ _ _ (unhide HX3).drew) (first
    | (go_at_call 192; refine ((unhide HSS) _ _ (by first | exact unhide HX3 | exact (unhide HX3).drew)).mono ?_; rintro e w5 ⟨rfl, he5⟩; have HX4 := hide he5; clear he5)
    | (go_at_call 124; refine ((unhide HCH) _ _ _ _ _ _ _ (unhide HC2) (unhide HX4)).mono ?_; rintro e w6 ⟨rfl, he6⟩; have HX5 := hide he6; clear he6))
  all_goals go_wp2
  all_goals exact ⟨rfl, _, results_none rfl _ _ _, rfl, (unhide HDR) _ _ _ (unhide HX5)⟩
end
end Go.Proofs.YtkakncngkmoegaaGreat

namespace Go.Proofs.YtkakncngkmoegaaGreat
open Go.RowKit Go.Sort

section
variable {w wx : World} {P : Pt} {s : St} {c : Ct} {rest : List (Ob w.heap.size)} {n : Nat}
set_option maxHeartbeats 2000000 in
theorem gleave_any (h : AE w wx P s c rest) (hi : Inv s n) (hc : c.cnt < 1000000000) (id : Int) : Calls Tryz.prog 157 #[.pointer (some ⟨P.bG, 0, none⟩), .int .i64 id] wx fun e w' => e = .returned (.tuple #[]) ∧ AE w w' P (leaveP s id) ⟨c.another, c.errs, c.cnt + 1⟩ rest := by
  have hmf : ∀ (fn : Fn) (first cap : Array Value) (w : World), (Instr.makeFunc fn first cap).run Tryz.prog w = .ok (.func fn first cap) w := fun _ _ _ _ => rfl
  have hae := h.boxes (Dk.start wx P.bG id)
  have HS := hide (fun W (s' : St) (c' : Ct) (hW : AE w W P s' c' ((rest ++ [blkOb _ wx.heap.size #[.pointer (some ⟨P.bG, 0, none⟩)] 83]) ++ [blkOb _ (wx.heap.size + 1) #[.int .i64 id] 3])) => hW.boxes_cells)
  have HPT := hide (fun W (hW : AE w W P s c ((rest ++ [blkOb _ wx.heap.size #[.pointer (some ⟨P.bG, 0, none⟩)] 83]) ++ [blkOb _ (wx.heap.size + 1) #[.int .i64 id] 3])) => ae_sremove hW hi id)
  have HFI := hide (fun W (hW : AE w W P s c ((rest ++ [blkOb _ wx.heap.size #[.pointer (some ⟨P.bG, 0, none⟩)] 83]) ++ [blkOb _ (wx.heap.size + 1) #[.int .i64 id] 3])) => ae_sfind hW hi id)
  have HCH := hide (fun W (s' : St) (e : Int) (fn : Fn) (fi ca : Array Value) (hW : AE w W P s' c ((rest ++ [blkOb _ wx.heap.size #[.pointer (some ⟨P.bG, 0, none⟩)] 83]) ++ [blkOb _ (wx.heap.size + 1) #[.int .i64 id] 3])) => changed_any hW hc e fn fi ca)
  have HDR := hide (fun W (s' : St) (c' : Ct) (hW : AE w W P s' c' ((rest ++ [blkOb _ wx.heap.size #[.pointer (some ⟨P.bG, 0, none⟩)] 83]) ++ [blkOb _ (wx.heap.size + 1) #[.int .i64 id] 3])) => hW.drop1.drop1)
  have HX := hide hae
  obtain ⟨y0, y1, y2, y3, y4⟩ := (unhide HS) _ _ _ hae
  generalize (rest ++ [blkOb w.heap.size wx.heap.size #[.pointer (some ⟨P.bG, 0, none⟩)] 83]) ++ [blkOb w.heap.size (wx.heap.size + 1) #[.int .i64 id] 3] = rest2 at *
  clear h hi hc hae
  go_enter Tryz.func157, Tryz.ntmps157
  go_wp2
  rename_i Q1 K1 hK1
  have HL : Hid (∀ (W : World) (bi : Nat) (u5 u6 u7 u8 u9 u10 u11 u12 u13 u14 u15 u16 u17 u18 u19 : Value), AE w W P s c rest2 → K1 { tmps := #[.pointer (some ⟨P.bG, 0, none⟩), .int .i64 id, .pointer (some ⟨wx.heap.size, 0, none⟩), .pointer (some ⟨wx.heap.size + 1, 0, none⟩), .pointer (some ⟨bi, 0, none⟩), u5, u6, u7, u8, u9, u10, u11, u12, u13, u14, u15, u16, u17, u18, u19], defers := [] } W) := hide (by
    intro W bi u5 u6 u7 u8 u9 u10 u11 u12 u13 u14 u15 u16 u17 u18 u19 hW
    have HY := hide hW
    clear y0 y1 y2 y3 y4
    obtain ⟨y0, y1, y2, y3, y4⟩ := (unhide HS) _ _ _ hW
    clear hW HX HFI
    apply hK1
    clear hK1
    go_wp2
    go_region_held3 (fun W' => W'.cell? ⟨wx.heap.size, 0, none⟩ = some (.pointer (some ⟨P.bG, 0, none⟩)) ∧ W'.cell? ⟨wx.heap.size + 1, 0, none⟩ = some (.int .i64 id) ∧ W'.cell? ⟨P.bG, 1, none⟩ = some (.pointer (some ⟨P.bK, 0, none⟩))) (first | (have q := (unhide HS) _ _ _ (unhide HX3); exact ⟨q.1, q.2.1, q.2.2.1⟩) | (have q := (unhide HS) _ _ _ (unhide HX2); exact ⟨q.1, q.2.1, q.2.2.1⟩) | (have q := (unhide HS) _ _ _ (unhide HY); exact ⟨q.1, q.2.1, q.2.2.1⟩) | (have q := (unhide HS) _ _ _ (unhide HY).drew; exact ⟨q.1, q.2.1, q.2.2.1⟩)) (first
      | (go_at_call 81; refine ((unhide HPT) _ (by first | exact unhide HY | exact (unhide HY).drew)).mono ?_; rintro e w3 ⟨rfl, he3⟩; have HX2 := hide he3; clear he3)
      | (go_at_call 124; refine ((unhide HCH) _ _ _ _ _ _ (unhide HX2)).mono ?_; rintro e w4 ⟨rfl, he4⟩; have HX3 := hide he4; clear he4))
    all_goals go_wp2
    all_goals exact ⟨rfl, _, results_none rfl _ _ _, rfl, (unhide HDR) _ _ _ (unhide HX3)⟩)
  clear hK1
  generalize (wx.alloc (.cells #[.pointer (some ⟨P.bG, 0, none⟩)] 83)).alloc (.cells #[.int .i64 id] 3) = W0 at *
  have y5 := ((unhide HS) _ _ _ ((unhide HX).more (below_newAc W0 numZ)))
  unfold numZ at y5
  obtain ⟨q0, q1, q2, _⟩ := y5
  go_region_with (first
    | (go_at_call 89; refine ((unhide HFI) _ (by first | exact unhide HX | exact (unhide HX).drew | exact (unhide HX).more (below_newAc _ _) | exact ((unhide HX).more (below_newAc _ _)).drew)).mono ?_; rintro e w1 ⟨rfl, rfl⟩))
  all_goals go_wp2
  all_goals (first | exact (unhide HL) _ _ _ _ _ _ _ _ _ _ _ _ _ _ _ _ _ ((unhide HX).more (below_newAc _ _)).drew | exact (unhide HL) _ _ _ _ _ _ _ _ _ _ _ _ _ _ _ _ _ ((unhide HX).more (below_newAc _ _)))
end
end Go.Proofs.YtkakncngkmoegaaGreat
