import Derived.Test.YtkakncngkmoegaaGreatXGz1
import Derived.Defers
import Derived.Recover
import Derived.Laws.Pointers
import Derived.ScopeJumps
import Derived.WalkMore
/-
  The agency: a run that closes F alone.
-/
namespace Go.Proofs.YtkakncngkmoegaaGreat
open Go.RowKit Go.Sort

/-- What is done at the end where nothing was refused: nothing. -/
theorem grun_deferred (W : World) (be bg : Nat) (u : FrameMode) (h : W.cell? ⟨be, 0, none⟩ = some (.int .i64 0)) : CallsD Tryz.prog 86 #[.pointer (some ⟨be, 0, none⟩), .pointer (some ⟨bg, 0, none⟩)] u W fun e u' w' => u' = u ∧ (e = .returned (.tuple #[]) ∧ w' = W) := by
  go_enter_d Tryz.func86, Tryz.ntmps86
  go_wp2
  exact ⟨rfl, _, results_none rfl _ _ _, rfl, rfl⟩
theorem err_ret {fn : Func} {p : Tmp} (hr : fn.results = #[.cell p 36]) {W : World} {b : Nat} {x : Int} (h : W.cell? ⟨b, 0, none⟩ = some (.int .i64 x)) (tmps : Array Value) (hp : tmps.getD p undef = .pointer (some ⟨b, 0, none⟩)) :
    (results fn tmps).run Tryz.prog W = .ok (.int .i64 x) W := by
  rw [results_cell hr tmps Tryz.prog W, hp]
  simp [go_sem, h]
section
variable {w wx : World} {P : Pt} {s : St} {c : Ct} {rest : List (Ob w.heap.size)} {n : Nat}
theorem AE.boxe (h : AE w wx P s c rest) : AE w ((wx.alloc (.cells #[.pointer (some ⟨P.bG, 0, none⟩)] 83)).alloc (.cells #[.int .i64 0] 36)) P s c ((rest ++ [blkOb _ wx.heap.size #[.pointer (some ⟨P.bG, 0, none⟩)] 83]) ++ [blkOb _ (wx.heap.size + 1) #[.int .i64 0] 36]) := by
  have h2 := (h.boxed #[.pointer (some ⟨P.bG, 0, none⟩)] 83).boxed #[.int .i64 0] 36
  rwa [show (wx.alloc (.cells #[.pointer (some ⟨P.bG, 0, none⟩)] 83)).heap.size = wx.heap.size + 1 by simp] at h2
theorem AE.boxe_cells {W : World} (h : AE w W P s c ((rest ++ [blkOb _ wx.heap.size #[.pointer (some ⟨P.bG, 0, none⟩)] 83]) ++ [blkOb _ (wx.heap.size + 1) #[.int .i64 0] 36])) : W.cell? ⟨wx.heap.size, 0, none⟩ = some (.pointer (some ⟨P.bG, 0, none⟩)) ∧ W.cell? ⟨wx.heap.size + 1, 0, none⟩ = some (.int .i64 0) ∧ W.frozen? ⟨wx.heap.size + 1, 0, none⟩ = false := by
  have h1 := h.block (i := rest.length) (K := wx.heap.size) (cs := #[.pointer (some ⟨P.bG, 0, none⟩)]) (t := 83) (by simp)
  have h2 := h.block (i := rest.length + 1) (K := wx.heap.size + 1) (cs := #[.int .i64 0]) (t := 36) (by simp)
  exact ⟨cell_of_row _ _ 0 _ _ _ h1, cell_of_row _ _ 0 _ _ _ h2, free_row h2 0⟩
set_option maxHeartbeats 4000000 in
set_option maxRecDepth 20000 in
theorem grun_closed (h : AE w wx P s c rest) (hi : Inv s n) (hc : c.cnt < 1000000000) (hmk : s.mark ≤ 1000000) (name : ByteArray) (f : Int) (hlast : lastE name s.es s.es.length = f) (hf1 : f ≠ -1) (hfind : 0 ≤ findM s.L f) (hsc : nodeScopeM (keysO s.os) s.L f 0 = true) (htop : topM s.L = f) (hbl : blockP (keysO s.os) s.L f = -1) :
    Calls Tryz.prog 39 #[.pointer (some ⟨P.bG, 0, none⟩), .string name] wx fun e w' => e = .returned (.int .i64 0) ∧ AE w w' P (dropP ⟨s.os, s.L.take (findM s.L f).toNat, s.es, s.mark⟩ f) ⟨c.another, c.errs, c.cnt + 1⟩ rest := by
  have hmf : ∀ (fn : Fn) (first cap : Array Value) (w : World), (Instr.makeFunc fn first cap).run Tryz.prog w = .ok (.func fn first cap) w := fun _ _ _ _ => rfl
  have hpl : 0 ≤ placeE s.es f := by
    have := place_last (nm := name) (es := s.es) (n := s.es.length) (by rw [hlast]; exact hf1)
    rwa [hlast] at this
  have HLA := hide (fun W (hW : AE w W P s c ((rest ++ [blkOb _ wx.heap.size #[.pointer (some ⟨P.bG, 0, none⟩)] 83]) ++ [blkOb _ (wx.heap.size + 1) #[.int .i64 0] 36])) => ae_llast hW hi name)
  rw [hlast] at HLA
  have HFI := hide (fun W (hW : AE w W P s c ((rest ++ [blkOb _ wx.heap.size #[.pointer (some ⟨P.bG, 0, none⟩)] 83]) ++ [blkOb _ (wx.heap.size + 1) #[.int .i64 0] 36])) => ae_sfind hW hi f)
  have HNS := hide (fun W (hW : AE w W P s c ((rest ++ [blkOb _ wx.heap.size #[.pointer (some ⟨P.bG, 0, none⟩)] 83]) ++ [blkOb _ (wx.heap.size + 1) #[.int .i64 0] 36])) => ae_nodeScope hW hi f 0)
  rw [hsc] at HNS
  have HTO := hide (fun W (hW : AE w W P s c ((rest ++ [blkOb _ wx.heap.size #[.pointer (some ⟨P.bG, 0, none⟩)] 83]) ++ [blkOb _ (wx.heap.size + 1) #[.int .i64 0] 36])) => ae_stop hW hi)
  rw [htop] at HTO
  have HSP := hide (fun W (hW : AE w W P s c ((rest ++ [blkOb _ wx.heap.size #[.pointer (some ⟨P.bG, 0, none⟩)] 83]) ++ [blkOb _ (wx.heap.size + 1) #[.int .i64 0] 36])) => gspecial_any hW hi f hfind)
  rw [hbl] at HSP
  have HPO := hide (fun W (hW : AE w W P s c ((rest ++ [blkOb _ wx.heap.size #[.pointer (some ⟨P.bG, 0, none⟩)] 83]) ++ [blkOb _ (wx.heap.size + 1) #[.int .i64 0] 36])) => gpopTo_any hW hi f hfind)
  have HDR := hide (fun W (hW : AE w W P ⟨s.os, s.L.take (findM s.L f).toNat, s.es, s.mark⟩ c ((rest ++ [blkOb _ wx.heap.size #[.pointer (some ⟨P.bG, 0, none⟩)] 83]) ++ [blkOb _ (wx.heap.size + 1) #[.int .i64 0] 36])) => gdrop_any hW (hi.takeL _) hc hmk f hpl)
  have HC := hide (fun W (s' : St) (c' : Ct) (hW : AE w W P s' c' ((rest ++ [blkOb _ wx.heap.size #[.pointer (some ⟨P.bG, 0, none⟩)] 83]) ++ [blkOb _ (wx.heap.size + 1) #[.int .i64 0] 36])) => And.intro hW.boxe_cells hW.cells)
  have HFIN := hide (fun W W' (s' : St) (c' : Ct) (hW : AE w W P s' c' ((rest ++ [blkOb _ wx.heap.size #[.pointer (some ⟨P.bG, 0, none⟩)] 83]) ++ [blkOb _ (wx.heap.size + 1) #[.int .i64 0] 36])) (hm : Mod (fun k => k = wx.heap.size + 1) W W') => (hW.wrote hm).drop1)
  have hbx := h.boxe
  obtain ⟨⟨z0, z1, z2⟩, g0, g1, g2, g3, g4, g5, g6⟩ := (unhide HC) _ _ _ hbx
  have HE := hide hbx
  have hfn : ¬ findM s.L f < 0 := by omega
  have hf2 : (f == -1) = false := by simpa using hf1
  generalize hR : ((rest ++ [blkOb w.heap.size wx.heap.size #[.pointer (some ⟨P.bG, 0, none⟩)] 83]) ++ [blkOb w.heap.size (wx.heap.size + 1) #[.int .i64 0] 36]) = rest2 at *
  generalize hW0 : (wx.alloc (.cells #[.pointer (some ⟨P.bG, 0, none⟩)] 83)).alloc (.cells #[.int .i64 0] 36) = W0 at *
  clear h hi hc hmk hlast hfind hsc htop hbl hpl hbx hR
  go_enter_defers Tryz.func39, Tryz.ntmps39
  go_wp2
  clear hW0
  refine wp_scope_jumps 0 (fun a' w' => AE w w' P (dropP ⟨s.os, s.L.take (findM s.L f).toNat, s.es, s.mark⟩ f) ⟨c.another, c.errs, c.cnt + 1⟩ rest2 ∧ ∃ u3 u5 u6 u7 u8 u9 u10 u11 u12 u13 u14 u15 u16 u17 u18 u19 u20 u21 u22 u23 u24 u25 u26 u27 u28 u29 u30 u31 u32 u33 u34 u35 u36 u37 u38 u39 u40 u41 u42 u43 u44 u45 u46 u47 u48 u49 u50 u51 u52 u53 u54 u55 u56 u57 u58 u59 u60 u61 u62 u63 u64 u65 u66 u67 u68 u69 u70 u71 u72 u73 u74 u75 u76 u77 u78 u79 u80 u81 u82 u83 u84 : Value, a' = { tmps := List.toArray ((.pointer (some ⟨P.bG, 0, none⟩)) :: (.string name) :: (.pointer (some ⟨wx.heap.size, 0, none⟩)) :: u3 :: (.pointer (some ⟨wx.heap.size + 1, 0, none⟩)) :: u5 :: u6 :: u7 :: u8 :: u9 :: u10 :: u11 :: u12 :: u13 :: u14 :: u15 :: u16 :: u17 :: u18 :: u19 :: u20 :: u21 :: u22 :: u23 :: u24 :: u25 :: u26 :: u27 :: u28 :: u29 :: u30 :: u31 :: u32 :: u33 :: u34 :: u35 :: u36 :: u37 :: u38 :: u39 :: u40 :: u41 :: u42 :: u43 :: u44 :: u45 :: u46 :: u47 :: u48 :: u49 :: u50 :: u51 :: u52 :: u53 :: u54 :: u55 :: u56 :: u57 :: u58 :: u59 :: u60 :: u61 :: u62 :: u63 :: u64 :: u65 :: u66 :: u67 :: u68 :: u69 :: u70 :: u71 :: u72 :: u73 :: u74 :: u75 :: u76 :: u77 :: u78 :: u79 :: u80 :: u81 :: u82 :: u83 :: u84 :: []), defers := [{ target := Target.fn (.func 86) #[.pointer (some ⟨wx.heap.size + 1, 0, none⟩), .pointer (some ⟨wx.heap.size, 0, none⟩)], args := #[] }] }) (fun _ _ => 0) rfl ?_ ?_
  · go_wp2
    go_loopg [8] 8 (fun _ s8 wr => s8 = .int .i64 0 ∧ wr = W0)
    case atStart => exact ⟨rfl, rfl⟩
    case round =>
      obtain ⟨rfl, rfl⟩ := hrel
      go_wp2_with (first
        | (go_at_call 88; refine ((unhide HLA) _ (unhide HE)).mono ?_; rintro e w1 ⟨rfl, he1⟩; have HE1 := hide he1; clear z0 z1 z2 g0 g1 g2 g3 g4 g5 g6; obtain ⟨⟨z0, z1, z2⟩, g0, g1, g2, g3, g4, g5, g6⟩ := (unhide HC) _ _ _ he1; clear he1)
        | (go_at_call 89; refine ((unhide HFI) _ (unhide HE1)).mono ?_; rintro e w2 ⟨rfl, rfl⟩)
        | (go_at_call 91; refine ((unhide HNS) _ (unhide HE1)).mono ?_; rintro e w3 ⟨rfl, he3⟩; have HE3 := hide he3; clear z0 z1 z2 g0 g1 g2 g3 g4 g5 g6; obtain ⟨⟨z0, z1, z2⟩, g0, g1, g2, g3, g4, g5, g6⟩ := (unhide HC) _ _ _ he3; clear he3)
        | (go_at_call 83; refine ((unhide HTO) _ (unhide HE3)).mono ?_; rintro e w4 ⟨rfl, rfl⟩)
        | (go_at_call 92; refine ((unhide HSP) _ (unhide HE3)).mono ?_; rintro e w5 ⟨rfl, he5⟩; have HE5 := hide he5; clear z0 z1 z2 g0 g1 g2 g3 g4 g5 g6; obtain ⟨⟨z0, z1, z2⟩, g0, g1, g2, g3, g4, g5, g6⟩ := (unhide HC) _ _ _ he5; clear he5)
        | (go_at_call 93; refine ((unhide HPO) _ (unhide HE5)).mono ?_; rintro e w6 ⟨rfl, he6⟩; have HE6 := hide he6; clear z0 z1 z2 g0 g1 g2 g3 g4 g5 g6; obtain ⟨⟨z0, z1, z2⟩, g0, g1, g2, g3, g4, g5, g6⟩ := (unhide HC) _ _ _ he6; clear he6)
        | (go_at_call 90; refine ((unhide HDR) _ (unhide HE6)).mono ?_; rintro e w7 ⟨rfl, he7⟩; have HE7 := hide he7; clear z0 z1 z2 g0 g1 g2 g3 g4 g5 g6; clear he7))
      go_step3
      exact ⟨rfl, unhide HE7, _, _, _, _, _, _, _, _, _, _, _, _, _, _, _, _, _, _, _, _, _, _, _, _, _, _, _, _, _, _, _, _, _, _, _, _, _, _, _, _, _, _, _, _, _, _, _, _, _, _, _, _, _, _, _, _, _, _, _, _, _, _, _, _, _, _, _, _, _, _, _, _, _, _, _, _, _, _, _, _, _, rfl⟩
  · rintro a' w' ⟨hae, u3, u5, u6, u7, u8, u9, u10, u11, u12, u13, u14, u15, u16, u17, u18, u19, u20, u21, u22, u23, u24, u25, u26, u27, u28, u29, u30, u31, u32, u33, u34, u35, u36, u37, u38, u39, u40, u41, u42, u43, u44, u45, u46, u47, u48, u49, u50, u51, u52, u53, u54, u55, u56, u57, u58, u59, u60, u61, u62, u63, u64, u65, u66, u67, u68, u69, u70, u71, u72, u73, u74, u75, u76, u77, u78, u79, u80, u81, u82, u83, u84, rfl⟩
    obtain ⟨⟨z0, z1, z2⟩, _⟩ := (unhide HC) _ _ _ hae
    have HA := hide hae
    clear hae
    go_wp2
    refine leaves_cons (f := 86) (args := #[.pointer (some ⟨wx.heap.size + 1, 0, none⟩), .pointer (some ⟨wx.heap.size, 0, none⟩)]) (by simp) (by simp [go_sem]) ?_
    refine (grun_deferred _ _ _ .returning ?_).mono ?_
    · exact World.cell?_setCell_same _ _ _ z1
    rintro e u' w2 ⟨rfl, rfl, rfl⟩
    have hm : Mod (fun k => k = wx.heap.size + 1) w' (w'.setCell ⟨wx.heap.size + 1, 0, none⟩ (.int .i64 0)) := Mod.setCell _ _ _ rfl
    have hfin := (unhide HFIN) _ _ _ _ (unhide HA) hm
    have hcl : (w'.setCell ⟨wx.heap.size + 1, 0, none⟩ (.int .i64 0)).cell? ⟨wx.heap.size + 1, 0, none⟩ = some (.int .i64 0) := World.cell?_setCell_same _ _ _ z1
    exact ⟨.int .i64 0, err_ret Tryz.results39 hcl _ rfl, rfl, hfin⟩
end
end Go.Proofs.YtkakncngkmoegaaGreat
