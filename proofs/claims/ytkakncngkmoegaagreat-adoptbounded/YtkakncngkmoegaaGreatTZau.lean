/-
   
-/
import Derived.Test.YtkakncngkmoegaaGreatTZat
namespace Go.Proofs.YtkakncngkmoegaaGreat
open Go.RowKit

theorem Sp.far {w W : World} {b b' : Nat} {p q : Int} (h : Sp w W b p q) (hb : w.heap.size ≤ b') (hne : b ≠ b') (x y : Int) : Sp w ((W.setCell ⟨b', 0, none⟩ (.int .i64 x)).setCell ⟨b', 1, none⟩ (.int .i64 y)) b p q := by
  have hm := (Mod.setCell (F := fun k => k = b') W ⟨b', 0, none⟩ (.int .i64 x) rfl).trans (Mod.setCell _ ⟨b', 1, none⟩ (.int .i64 y) rfl)
  exact ⟨h.bel.trans (hm.below h.bel.size (fun k hk => by omega)), h.le, (hm.block b (lt_of_block h.box) hne).trans h.box⟩

section
variable {w wx : World} {obs : List (Ob w.heap.size)} {i j bA bR bK bW : Nat} {os : List OneM} {L : List Int}
set_option maxHeartbeats 2000000 in
set_option maxRecDepth 100000 in
/-- A template. -/
theorem foster_tmpl (h : Env w wx obs) (hi : obs[i]? = some (aO _ bA os)) (hj : obs[j]? = some (stOb _ bK bA (keysO os) L)) (hij : i ≠ j) (hg : Good (keysO os) L) (t : Int) {z p : Nat} {o : OneM} (hs : scanL (qK (keysO os) [tableB, tmplB]) L L.length = (z : Int)) (hz : L[z]? = some (p : Int)) (ho : os[p]? = some o) (hT : isOfO o [tmplB] = true) (fa fb : Int) (hfa : fa = (p : Int)) (hfb : fb = -1) (ga gb : Int) (hga : (fa = -1 ∧ fb = -1 ∧ ga = t ∧ gb = -1) ∨ (¬ (fa = -1 ∧ fb = -1) ∧ ga = fa ∧ gb = fb)) :
    Calls Tryz.prog 166 #[.pointer (some ⟨bA, 0, none⟩), .pointer (some ⟨bK, 0, none⟩), .int .i64 t] wx fun e w' => e = .returned (spotV ga gb) ∧ Below wx.heap.size wx w' := by
  have HE := hide h
  have HAT := hide (fun W (hW : Env w W obs) (k : Int) => env_at hW hj k)
  have HAZ := hide (show atM L (z : Int) = (p : Int) from atM_in hz)
  have hl3 : ∀ (W0 : World) (ob : Obj), Env w W0 obs → Calls Tryz.prog 195 #[.pointer (some ⟨bA, 0, none⟩), .pointer (some ⟨bK, 0, none⟩), .slice (some ⟨W0.heap.size + 1, 0, none⟩) 2 2] ((W0.alloc ob).alloc (.cells #[.string tableB, .string tmplB] 9)) fun e w' => ∃ (n : NodeM) (ao : Option Addr) (m c : Nat), e = .returned (.tuple #[.int .i64 (z : Int), nodeV n (.slice ao m c)]) ∧ NodeIs o n ∧ Below (W0.alloc ob).heap.size (W0.alloc ob) w' := fun W0 ob hW => by
    have := lastN_some (hW.more (below_new W0 ob)) hi hj hij hg hs hz ho
    rw [show (some (⟨(W0.alloc ob).heap.size, 0, none⟩ : Addr)) = some ⟨W0.heap.size + 1, 0, none⟩ by simp] at this
    exact this
  have HL := hide hl3
  have HEND := hide (fun (W : World) (x : Int) => atEnd_any W x)
  have hq := fun (a b c d : Int) (W : World) => eqSpot a b c d W
  have hnm : (o.name.toList == (⟨#[116, 101, 109, 112, 108, 97, 116, 101]⟩ : ByteArray).toList) = true := by
    have h1 : hasT [tmplB] o.name = true := by
      unfold isOfO at hT
      simp only [Bool.and_eq_true] at hT
      exact hT.2
    simpa [hasT, tmplB] using h1
  have hnm2 : (o.name.toList == [116, 101, 109, 112, 108, 97, 116, 101]) = true := by
    have e : (⟨#[116, 101, 109, 112, 108, 97, 116, 101]⟩ : ByteArray).toList = [116, 101, 109, 112, 108, 97, 116, 101] := by decide +kernel
    rw [e] at hnm
    exact hnm
  have hz0 : (0 : Int) ≤ (z : Int) := by omega
  have hz1 : ¬ ((z : Int) < 0) := by omega
  unfold spotV at HEND ⊢
  unfold tableB tmplB at HL
  have HFA := hide hfa
  have HFB := hide hfb
  have HGA := hide hga
  clear h hi hj hg hs hfa hfb hl3 hga hz ho
  go_enter Tryz.func166, Tryz.ntmps166
  go_wp2
  refine wp_scope_jumps 0 (fun a' w' => Sp wx w' wx.heap.size 0 0 ∧ ∃ bat : Nat, Sp wx w' bat fa fb ∧ bat ≠ wx.heap.size ∧ ∃ u3 u4 u5 u8 u9 u10 u11 u12 u13 u14 u15 u16 u17 u18 u19 u20 u21 u22 u23 u24 u25 u26 u27 u28 u29 u30 u31 u32 u33 u34 u35 u36 u37 u38 u39 u40 u41 u42 u43 u44 u45 u46 u47 u48 : Value, a' = { tmps := List.toArray ((.pointer (some ⟨bA, 0, none⟩)) :: (.pointer (some ⟨bK, 0, none⟩)) :: (.int .i64 t) :: u3 :: u4 :: u5 :: (.pointer (some ⟨wx.heap.size, 0, none⟩)) :: (.pointer (some ⟨bat, 0, none⟩)) :: u8 :: u9 :: u10 :: u11 :: u12 :: u13 :: u14 :: u15 :: u16 :: u17 :: u18 :: u19 :: u20 :: u21 :: u22 :: u23 :: u24 :: u25 :: u26 :: u27 :: u28 :: u29 :: u30 :: u31 :: u32 :: u33 :: u34 :: u35 :: u36 :: u37 :: u38 :: u39 :: u40 :: u41 :: u42 :: u43 :: u44 :: u45 :: u46 :: u47 :: u48 :: []), defers := [] }) (fun _ _ => 0) rfl ?_ ?_
  · generalize ha0 : atM L 0 = a0 at *
    have HA0 := hide ha0
    clear ha0
    go_wp2_with (first
      | (go_at_call 15; have _x := unhide HR4; refine ((unhide HAT) _ ((unhide HE).more (unhide HR4).bel) _).mono ?_; rintro e w5 ⟨rfl, rfl⟩; rw [unhide HAZ]; obtain ⟨q0, q1, q2, q3⟩ := (unhide HA4).cells)
      | (go_at_call 15; refine ((unhide HAT) _ ((unhide HE).more (below_new _ _)) _).mono ?_; rintro e w2 ⟨rfl, rfl⟩; rw [unhide HA0])
      | (go_at_call 164; have _x := unhide HR4; refine ((unhide HEND) _ _).mono ?_; rintro e w6 ⟨rfl, hb⟩; have HR6 := hide ((unhide HR4).more hb); have HA6 := hide ((unhide HA4).more hb); clear hb q0 q1 q2 q3; obtain ⟨q0, q1, q2, q3⟩ := (unhide HA6).cells)
      | (go_at_call 164; refine ((unhide HEND) _ _).mono ?_; rintro e w3 ⟨rfl, hb⟩; have HR3 := hide (((Sp.new wx 0 0).more hb).alloc (.cells #[.int .i64 a0, .int .i64 (-1)] 159)); have HA3 := hide (show Sp wx (w3.alloc (.cells #[.int .i64 a0, .int .i64 (-1)] 159)) w3.heap.size a0 (-1) from ⟨(unhide HR3).bel, (((Sp.new wx 0 0).more hb).bel).size, Box2.new w3 a0 (-1)⟩); have HNE := hide (show w3.heap.size ≠ wx.heap.size from by have h1 := hb.size; simp at h1; omega); have HE3 := hide ((unhide HE).more ((Sp.new wx 0 0).more hb).bel); clear hb)
      | (go_at_call 195; refine ((unhide HL) _ _ (unhide HE3)).mono ?_; rintro e w4 ⟨n, ao, m, c, rfl, hn, hb⟩; obtain ⟨nk, nsp, nm, av, da, sy, pa, fi, la, pr, ne, inn, att⟩ := n; have enm : nm = o.name := hn.same.name; subst enm; have epa : pa = o.up := hn.same.up; subst epa; have HR4 := hide (((unhide HR3).more hb).alloc (.cells #[.int .i64 nk, .int .i64 nsp, .string o.name, .slice ao m c, .string da, .string sy, .int .i64 o.up, .int .i64 fi, .int .i64 la, .int .i64 pr, .int .i64 ne, .int .i64 inn] 47)); have HA4 := hide (((unhide HA3).more hb).alloc (.cells #[.int .i64 nk, .int .i64 nsp, .string o.name, .slice ao m c, .string da, .string sy, .int .i64 o.up, .int .i64 fi, .int .i64 la, .int .i64 pr, .int .i64 ne, .int .i64 inn] 47)); clear hb hn; simp only [nodeV, NodeM.cells]))
    go_step3
    exact ⟨rfl, (unhide HR6).far (unhide HA6).le (unhide HNE).symm _ _, w3.heap.size, by rw [unhide HFA, unhide HFB]; exact (unhide HA6).put _ _, unhide HNE, _, _, _, _, _, _, _, _, _, _, _, _, _, _, _, _, _, _, _, _, _, _, _, _, _, _, _, _, _, _, _, _, _, _, _, _, _, _, _, _, _, _, _, _, rfl⟩
  · rintro a' w' ⟨hR, bat, hA, hne, u3, u4, u5, u8, u9, u10, u11, u12, u13, u14, u15, u16, u17, u18, u19, u20, u21, u22, u23, u24, u25, u26, u27, u28, u29, u30, u31, u32, u33, u34, u35, u36, u37, u38, u39, u40, u41, u42, u43, u44, u45, u46, u47, u48, rfl⟩
    have HR := hide hR
    have HA := hide hA
    obtain ⟨s0, s1, s2, s3⟩ := hA.cells
    clear hR hA
    rcases unhide HGA with ⟨rfl, rfl, rfl, rfl⟩ | ⟨hnn, rfl, rfl⟩
    · go_wp2_with fail
      go_region_with (go_at_call 164; refine ((unhide HEND) _ _).mono ?_; rintro e x2 ⟨rfl, hb⟩; have HR2 : Hid (Sp wx x2 wx.heap.size 0 0) := hide (by first | exact (unhide HR).drew.more hb | exact (unhide HR).more hb); have HA2 : Hid (Sp wx x2 bat _ _) := hide (by first | exact (unhide HA).drew.more hb | exact (unhide HA).more hb); clear hb; obtain ⟨r0, r1, r2, r3⟩ := (unhide HR2).cells; obtain ⟨t0, t1, t2, t3⟩ := (unhide HA2).cells)
      all_goals go_wp2_with (go_at_call 164; refine ((unhide HEND) _ _).mono ?_; rintro e x3 ⟨rfl, hb⟩; have HR3 := hide ((unhide HR2).more hb); clear hb r0 r1 r2 r3; obtain ⟨r0, r1, r2, r3⟩ := (unhide HR3).cells)
      all_goals simp only [Exit.jump]
      all_goals have R := (unhide HR3).put ga (-1)
      all_goals exact bodyPost_ret (spot_ret1 (p := 6) Tryz.results166 (b := wx.heap.size) R.box _ rfl) rfl ⟨rfl, R.bel⟩
    · have hnb : (ga == -1 && gb == -1) = false := by
        rw [Bool.and_eq_false_iff]
        by_cases h1 : ga = -1
        · right; simp; exact fun h2 => hnn ⟨h1, h2⟩
        · left; simp [h1]
      clear hnn
      go_wp2_with fail
      go_region_with (go_at_call 164; refine ((unhide HEND) _ _).mono ?_; rintro e x2 ⟨rfl, hb⟩; have HR2 : Hid (Sp wx x2 wx.heap.size 0 0) := hide (by first | exact (unhide HR).drew.more hb | exact (unhide HR).more hb); have HA2 : Hid (Sp wx x2 bat _ _) := hide (by first | exact (unhide HA).drew.more hb | exact (unhide HA).more hb); clear hb; obtain ⟨r0, r1, r2, r3⟩ := (unhide HR2).cells; obtain ⟨t0, t1, t2, t3⟩ := (unhide HA2).cells)
      all_goals go_wp2
      all_goals simp only [Exit.jump]
      all_goals have R := (unhide HR2).put ga gb
      all_goals exact bodyPost_ret (spot_ret1 (p := 6) Tryz.results166 (b := wx.heap.size) R.box _ rfl) rfl ⟨rfl, R.bel⟩

set_option maxHeartbeats 2000000 in
set_option maxRecDepth 100000 in
/-- A table that has a parent. -/
theorem foster_up (h : Env w wx obs) (hi : obs[i]? = some (aO _ bA os)) (hj : obs[j]? = some (stOb _ bK bA (keysO os) L)) (hij : i ≠ j) (hg : Good (keysO os) L) (t : Int) {z p : Nat} {o : OneM} (hs : scanL (qK (keysO os) [tableB, tmplB]) L L.length = (z : Int)) (hz : L[z]? = some (p : Int)) (ho : os[p]? = some o) (hT : hasT [tmplB] o.name = false) (hu : o.up ≠ -1) (fa fb : Int) (hfa : fa = o.up) (hfb : fb = (p : Int)) (ga gb : Int) (hga : (fa = -1 ∧ fb = -1 ∧ ga = t ∧ gb = -1) ∨ (¬ (fa = -1 ∧ fb = -1) ∧ ga = fa ∧ gb = fb)) :
    Calls Tryz.prog 166 #[.pointer (some ⟨bA, 0, none⟩), .pointer (some ⟨bK, 0, none⟩), .int .i64 t] wx fun e w' => e = .returned (spotV ga gb) ∧ Below wx.heap.size wx w' := by
  have HE := hide h
  have HAT := hide (fun W (hW : Env w W obs) (k : Int) => env_at hW hj k)
  have HAZ := hide (show atM L (z : Int) = (p : Int) from atM_in hz)
  have hl3 : ∀ (W0 : World) (ob : Obj), Env w W0 obs → Calls Tryz.prog 195 #[.pointer (some ⟨bA, 0, none⟩), .pointer (some ⟨bK, 0, none⟩), .slice (some ⟨W0.heap.size + 1, 0, none⟩) 2 2] ((W0.alloc ob).alloc (.cells #[.string tableB, .string tmplB] 9)) fun e w' => ∃ (n : NodeM) (ao : Option Addr) (m c : Nat), e = .returned (.tuple #[.int .i64 (z : Int), nodeV n (.slice ao m c)]) ∧ NodeIs o n ∧ Below (W0.alloc ob).heap.size (W0.alloc ob) w' := fun W0 ob hW => by
    have := lastN_some (hW.more (below_new W0 ob)) hi hj hij hg hs hz ho
    rw [show (some (⟨(W0.alloc ob).heap.size, 0, none⟩ : Addr)) = some ⟨W0.heap.size + 1, 0, none⟩ by simp] at this
    exact this
  have HL := hide hl3
  have HEND := hide (fun (W : World) (x : Int) => atEnd_any W x)
  have hq := fun (a b c d : Int) (W : World) => eqSpot a b c d W
  have hnm : (o.name.toList == (⟨#[116, 101, 109, 112, 108, 97, 116, 101]⟩ : ByteArray).toList) = false := by
    have h1 : hasT [tmplB] o.name = false := hT
    simpa [hasT, tmplB] using h1
  have hnm2 : (o.name.toList == [116, 101, 109, 112, 108, 97, 116, 101]) = false := by
    have e : (⟨#[116, 101, 109, 112, 108, 97, 116, 101]⟩ : ByteArray).toList = [116, 101, 109, 112, 108, 97, 116, 101] := by decide +kernel
    rw [e] at hnm
    exact hnm
  have hu2 : (o.up != -1) = true := by simp [hu]
  have hz0 : (0 : Int) ≤ (z : Int) := by omega
  have hz1 : ¬ ((z : Int) < 0) := by omega
  unfold spotV at HEND ⊢
  unfold tableB tmplB at HL
  have HFA := hide hfa
  have HFB := hide hfb
  have HGA := hide hga
  clear h hi hj hg hs hfa hfb hl3 hga hz ho
  go_enter Tryz.func166, Tryz.ntmps166
  go_wp2
  refine wp_scope_jumps 0 (fun a' w' => Sp wx w' wx.heap.size 0 0 ∧ ∃ bat : Nat, Sp wx w' bat fa fb ∧ bat ≠ wx.heap.size ∧ ∃ u3 u4 u5 u8 u9 u10 u11 u12 u13 u14 u15 u16 u17 u18 u19 u20 u21 u22 u23 u24 u25 u26 u27 u28 u29 u30 u31 u32 u33 u34 u35 u36 u37 u38 u39 u40 u41 u42 u43 u44 u45 u46 u47 u48 : Value, a' = { tmps := List.toArray ((.pointer (some ⟨bA, 0, none⟩)) :: (.pointer (some ⟨bK, 0, none⟩)) :: (.int .i64 t) :: u3 :: u4 :: u5 :: (.pointer (some ⟨wx.heap.size, 0, none⟩)) :: (.pointer (some ⟨bat, 0, none⟩)) :: u8 :: u9 :: u10 :: u11 :: u12 :: u13 :: u14 :: u15 :: u16 :: u17 :: u18 :: u19 :: u20 :: u21 :: u22 :: u23 :: u24 :: u25 :: u26 :: u27 :: u28 :: u29 :: u30 :: u31 :: u32 :: u33 :: u34 :: u35 :: u36 :: u37 :: u38 :: u39 :: u40 :: u41 :: u42 :: u43 :: u44 :: u45 :: u46 :: u47 :: u48 :: []), defers := [] }) (fun _ _ => 0) rfl ?_ ?_
  · generalize ha0 : atM L 0 = a0 at *
    have HA0 := hide ha0
    clear ha0
    go_wp2_with (first
      | (go_at_call 15; have _x := unhide HR4; fail)
      | (go_at_call 15; refine ((unhide HAT) _ ((unhide HE).more (below_new _ _)) _).mono ?_; rintro e w2 ⟨rfl, rfl⟩; rw [unhide HA0])
      | (go_at_call 164; have _x := unhide HR4; fail)
      | (go_at_call 164; refine ((unhide HEND) _ _).mono ?_; rintro e w3 ⟨rfl, hb⟩; have HR3 := hide (((Sp.new wx 0 0).more hb).alloc (.cells #[.int .i64 a0, .int .i64 (-1)] 159)); have HA3 := hide (show Sp wx (w3.alloc (.cells #[.int .i64 a0, .int .i64 (-1)] 159)) w3.heap.size a0 (-1) from ⟨(unhide HR3).bel, (((Sp.new wx 0 0).more hb).bel).size, Box2.new w3 a0 (-1)⟩); have HNE := hide (show w3.heap.size ≠ wx.heap.size from by have h1 := hb.size; simp at h1; omega); have HE3 := hide ((unhide HE).more ((Sp.new wx 0 0).more hb).bel); clear hb)
      | (go_at_call 195; refine ((unhide HL) _ _ (unhide HE3)).mono ?_; rintro e w4 ⟨n, ao, m, c, rfl, hn, hb⟩; obtain ⟨nk, nsp, nm, av, da, sy, pa, fi, la, pr, ne, inn, att⟩ := n; have enm : nm = o.name := hn.same.name; subst enm; have epa : pa = o.up := hn.same.up; subst epa; have HR4 := hide (((unhide HR3).more hb).alloc (.cells #[.int .i64 nk, .int .i64 nsp, .string o.name, .slice ao m c, .string da, .string sy, .int .i64 o.up, .int .i64 fi, .int .i64 la, .int .i64 pr, .int .i64 ne, .int .i64 inn] 47)); have HA4 := hide (((unhide HA3).more hb).alloc (.cells #[.int .i64 nk, .int .i64 nsp, .string o.name, .slice ao m c, .string da, .string sy, .int .i64 o.up, .int .i64 fi, .int .i64 la, .int .i64 pr, .int .i64 ne, .int .i64 inn] 47)); clear hb hn; simp only [nodeV, NodeM.cells]))
    go_region_with (go_at_call 15; refine ((unhide HAT) _ (by first | exact (unhide HE).more (unhide HR4).bel | exact (unhide HE).more (unhide HR4).drew.bel) _).mono ?_; rintro e w5 ⟨rfl, rfl⟩; rw [unhide HAZ]; obtain ⟨q0, q1, q2, q3⟩ := (unhide HA4).cells; obtain ⟨y0, y1, y2, y3⟩ := (unhide HA4).drew.cells)
    all_goals go_wp2
    all_goals go_step3
    all_goals refine ⟨rfl, ?_, w3.heap.size, ?_, unhide HNE, _, _, _, _, _, _, _, _, _, _, _, _, _, _, _, _, _, _, _, _, _, _, _, _, _, _, _, _, _, _, _, _, _, _, _, _, _, _, _, _, _, _, _, _, rfl⟩
    all_goals first
      | exact (unhide HR4).drew.far (unhide HA4).le (unhide HNE).symm _ _
      | exact ((unhide HR4).far (unhide HA4).le (unhide HNE).symm _ _).drew
      | (rw [unhide HFA, unhide HFB]; exact (unhide HA4).drew.put _ _)
      | (rw [unhide HFA, unhide HFB]; exact ((unhide HA4).put _ _).drew)
  · rintro a' w' ⟨hR, bat, hA, hne, u3, u4, u5, u8, u9, u10, u11, u12, u13, u14, u15, u16, u17, u18, u19, u20, u21, u22, u23, u24, u25, u26, u27, u28, u29, u30, u31, u32, u33, u34, u35, u36, u37, u38, u39, u40, u41, u42, u43, u44, u45, u46, u47, u48, rfl⟩
    have HR := hide hR
    have HA := hide hA
    obtain ⟨s0, s1, s2, s3⟩ := hA.cells
    clear hR hA
    rcases unhide HGA with ⟨rfl, rfl, rfl, rfl⟩ | ⟨hnn, rfl, rfl⟩
    · go_wp2_with fail
      go_region_with (go_at_call 164; refine ((unhide HEND) _ _).mono ?_; rintro e x2 ⟨rfl, hb⟩; have HR2 : Hid (Sp wx x2 wx.heap.size 0 0) := hide (by first | exact (unhide HR).drew.more hb | exact (unhide HR).more hb); have HA2 : Hid (Sp wx x2 bat _ _) := hide (by first | exact (unhide HA).drew.more hb | exact (unhide HA).more hb); clear hb; obtain ⟨r0, r1, r2, r3⟩ := (unhide HR2).cells; obtain ⟨t0, t1, t2, t3⟩ := (unhide HA2).cells)
      all_goals go_wp2_with (go_at_call 164; refine ((unhide HEND) _ _).mono ?_; rintro e x3 ⟨rfl, hb⟩; have HR3 := hide ((unhide HR2).more hb); clear hb r0 r1 r2 r3; obtain ⟨r0, r1, r2, r3⟩ := (unhide HR3).cells)
      all_goals simp only [Exit.jump]
      all_goals have R := (unhide HR3).put ga (-1)
      all_goals exact bodyPost_ret (spot_ret1 (p := 6) Tryz.results166 (b := wx.heap.size) R.box _ rfl) rfl ⟨rfl, R.bel⟩
    · have hnb : (ga == -1 && gb == -1) = false := by
        rw [Bool.and_eq_false_iff]
        by_cases h1 : ga = -1
        · right; simp; exact fun h2 => hnn ⟨h1, h2⟩
        · left; simp [h1]
      clear hnn
      go_wp2_with fail
      go_region_with (go_at_call 164; refine ((unhide HEND) _ _).mono ?_; rintro e x2 ⟨rfl, hb⟩; have HR2 : Hid (Sp wx x2 wx.heap.size 0 0) := hide (by first | exact (unhide HR).drew.more hb | exact (unhide HR).more hb); have HA2 : Hid (Sp wx x2 bat _ _) := hide (by first | exact (unhide HA).drew.more hb | exact (unhide HA).more hb); clear hb; obtain ⟨r0, r1, r2, r3⟩ := (unhide HR2).cells; obtain ⟨t0, t1, t2, t3⟩ := (unhide HA2).cells)
      all_goals go_wp2
      all_goals simp only [Exit.jump]
      all_goals have R := (unhide HR2).put ga gb
      all_goals exact bodyPost_ret (spot_ret1 (p := 6) Tryz.results166 (b := wx.heap.size) R.box _ rfl) rfl ⟨rfl, R.bel⟩

end
end Go.Proofs.YtkakncngkmoegaaGreat
/-
  Package place: fostered where a template or a table is found.
-/
namespace Go.Proofs.YtkakncngkmoegaaGreat
open Go.RowKit

section
variable {w wx : World} {obs : List (Ob w.heap.size)} {i j bA bR bK bW : Nat} {os : List OneM} {L : List Int}
set_option maxHeartbeats 2000000 in
set_option maxRecDepth 100000 in
/-- A table that has no parent. -/
theorem foster_down (h : Env w wx obs) (hi : obs[i]? = some (aO _ bA os)) (hj : obs[j]? = some (stOb _ bK bA (keysO os) L)) (hij : i ≠ j) (hg : Good (keysO os) L) (t : Int) {z p : Nat} {o : OneM} (hs : scanL (qK (keysO os) [tableB, tmplB]) L L.length = (z : Int)) (hz : L[z]? = some (p : Int)) (ho : os[p]? = some o) (hT : hasT [tmplB] o.name = false) (hu : o.up = -1) (fa fb : Int) (hfa : fa = atM L ((z : Int) - 1)) (hfb : fb = -1) (ga gb : Int) (hga : (fa = -1 ∧ fb = -1 ∧ ga = t ∧ gb = -1) ∨ (¬ (fa = -1 ∧ fb = -1) ∧ ga = fa ∧ gb = fb)) :
    Calls Tryz.prog 166 #[.pointer (some ⟨bA, 0, none⟩), .pointer (some ⟨bK, 0, none⟩), .int .i64 t] wx fun e w' => e = .returned (spotV ga gb) ∧ Below wx.heap.size wx w' := by
  have HE := hide h
  have HAT := hide (fun W (hW : Env w W obs) (k : Int) => env_at hW hj k)
  have HAZ := hide (show atM L (z : Int) = (p : Int) from atM_in hz)
  have hl3 : ∀ (W0 : World) (ob : Obj), Env w W0 obs → Calls Tryz.prog 195 #[.pointer (some ⟨bA, 0, none⟩), .pointer (some ⟨bK, 0, none⟩), .slice (some ⟨W0.heap.size + 1, 0, none⟩) 2 2] ((W0.alloc ob).alloc (.cells #[.string tableB, .string tmplB] 9)) fun e w' => ∃ (n : NodeM) (ao : Option Addr) (m c : Nat), e = .returned (.tuple #[.int .i64 (z : Int), nodeV n (.slice ao m c)]) ∧ NodeIs o n ∧ Below (W0.alloc ob).heap.size (W0.alloc ob) w' := fun W0 ob hW => by
    have := lastN_some (hW.more (below_new W0 ob)) hi hj hij hg hs hz ho
    rw [show (some (⟨(W0.alloc ob).heap.size, 0, none⟩ : Addr)) = some ⟨W0.heap.size + 1, 0, none⟩ by simp] at this
    exact this
  have HL := hide hl3
  have HEND := hide (fun (W : World) (x : Int) => atEnd_any W x)
  have hq := fun (a b c d : Int) (W : World) => eqSpot a b c d W
  have hnm : (o.name.toList == (⟨#[116, 101, 109, 112, 108, 97, 116, 101]⟩ : ByteArray).toList) = false := by
    have h1 : hasT [tmplB] o.name = false := hT
    simpa [hasT, tmplB] using h1
  have hnm2 : (o.name.toList == [116, 101, 109, 112, 108, 97, 116, 101]) = false := by
    have e : (⟨#[116, 101, 109, 112, 108, 97, 116, 101]⟩ : ByteArray).toList = [116, 101, 109, 112, 108, 97, 116, 101] := by decide +kernel
    rw [e] at hnm
    exact hnm
  have hu2 : (o.up != -1) = false := by simp [hu]
  clear hu
  have hzb : (z : Int) ≤ 32768 := by
    obtain ⟨FA, F, h1, h2, _⟩ := h.as hi hj hij
    have h3 := (Live.mk' h1 h2).few hg
    have h4 := (List.getElem?_eq_some_iff.1 hz).1
    omega
  have hz0 : (0 : Int) ≤ (z : Int) := by omega
  have hz1 : ¬ ((z : Int) < 0) := by omega
  unfold spotV at HEND ⊢
  unfold tableB tmplB at HL
  have HFA := hide hfa
  have HFB := hide hfb
  have HGA := hide hga
  clear h hi hj hg hs hfa hfb hl3 hga hz ho
  go_enter Tryz.func166, Tryz.ntmps166
  go_wp2
  refine wp_scope_jumps 0 (fun a' w' => Sp wx w' wx.heap.size 0 0 ∧ ∃ bat : Nat, Sp wx w' bat fa fb ∧ bat ≠ wx.heap.size ∧ ∃ u3 u4 u5 u8 u9 u10 u11 u12 u13 u14 u15 u16 u17 u18 u19 u20 u21 u22 u23 u24 u25 u26 u27 u28 u29 u30 u31 u32 u33 u34 u35 u36 u37 u38 u39 u40 u41 u42 u43 u44 u45 u46 u47 u48 : Value, a' = { tmps := List.toArray ((.pointer (some ⟨bA, 0, none⟩)) :: (.pointer (some ⟨bK, 0, none⟩)) :: (.int .i64 t) :: u3 :: u4 :: u5 :: (.pointer (some ⟨wx.heap.size, 0, none⟩)) :: (.pointer (some ⟨bat, 0, none⟩)) :: u8 :: u9 :: u10 :: u11 :: u12 :: u13 :: u14 :: u15 :: u16 :: u17 :: u18 :: u19 :: u20 :: u21 :: u22 :: u23 :: u24 :: u25 :: u26 :: u27 :: u28 :: u29 :: u30 :: u31 :: u32 :: u33 :: u34 :: u35 :: u36 :: u37 :: u38 :: u39 :: u40 :: u41 :: u42 :: u43 :: u44 :: u45 :: u46 :: u47 :: u48 :: []), defers := [] }) (fun _ _ => 0) rfl ?_ ?_
  · generalize ha0 : atM L 0 = a0 at *
    have HA0 := hide ha0
    clear ha0
    go_wp2_with (first
      | (go_at_call 15; have _x := unhide HR4; refine ((unhide HAT) _ ((unhide HE).more (unhide HR4).bel) _).mono ?_; rintro e w5 ⟨rfl, rfl⟩; rw [← unhide HFA]; obtain ⟨q0, q1, q2, q3⟩ := (unhide HA4).cells)
      | (go_at_call 15; refine ((unhide HAT) _ ((unhide HE).more (below_new _ _)) _).mono ?_; rintro e w2 ⟨rfl, rfl⟩; rw [unhide HA0])
      | (go_at_call 164; have _x := unhide HR4; refine ((unhide HEND) _ _).mono ?_; rintro e w6 ⟨rfl, hb⟩; have HR6 := hide ((unhide HR4).more hb); have HA6 := hide ((unhide HA4).more hb); clear hb q0 q1 q2 q3; obtain ⟨q0, q1, q2, q3⟩ := (unhide HA6).cells)
      | (go_at_call 164; refine ((unhide HEND) _ _).mono ?_; rintro e w3 ⟨rfl, hb⟩; have HR3 := hide (((Sp.new wx 0 0).more hb).alloc (.cells #[.int .i64 a0, .int .i64 (-1)] 159)); have HA3 := hide (show Sp wx (w3.alloc (.cells #[.int .i64 a0, .int .i64 (-1)] 159)) w3.heap.size a0 (-1) from ⟨(unhide HR3).bel, (((Sp.new wx 0 0).more hb).bel).size, Box2.new w3 a0 (-1)⟩); have HNE := hide (show w3.heap.size ≠ wx.heap.size from by have h1 := hb.size; simp at h1; omega); have HE3 := hide ((unhide HE).more ((Sp.new wx 0 0).more hb).bel); clear hb)
      | (go_at_call 195; refine ((unhide HL) _ _ (unhide HE3)).mono ?_; rintro e w4 ⟨n, ao, m, c, rfl, hn, hb⟩; obtain ⟨nk, nsp, nm, av, da, sy, pa, fi, la, pr, ne, inn, att⟩ := n; have enm : nm = o.name := hn.same.name; subst enm; have epa : pa = o.up := hn.same.up; subst epa; have HR4 := hide (((unhide HR3).more hb).alloc (.cells #[.int .i64 nk, .int .i64 nsp, .string o.name, .slice ao m c, .string da, .string sy, .int .i64 o.up, .int .i64 fi, .int .i64 la, .int .i64 pr, .int .i64 ne, .int .i64 inn] 47)); have HA4 := hide (((unhide HA3).more hb).alloc (.cells #[.int .i64 nk, .int .i64 nsp, .string o.name, .slice ao m c, .string da, .string sy, .int .i64 o.up, .int .i64 fi, .int .i64 la, .int .i64 pr, .int .i64 ne, .int .i64 inn] 47)); clear hb hn; simp only [nodeV, NodeM.cells]))
    go_step3
    have HR := hide ((unhide HR6).far (unhide HA6).le (unhide HNE).symm fa (-1))
    have HA : Hid (Sp wx ((w6.setCell ⟨w3.heap.size, 0, none⟩ (.int .i64 fa)).setCell ⟨w3.heap.size, 1, none⟩ (.int .i64 (-1))) w3.heap.size fa fb) := hide (by rw [unhide HFB]; exact (unhide HA6).put fa (-1))
    obtain ⟨W, hW⟩ : ∃ W, W = ((w6.setCell ⟨w3.heap.size, 0, none⟩ (.int .i64 fa)).setCell ⟨w3.heap.size, 1, none⟩ (.int .i64 (-1))) := ⟨_, rfl⟩
    rw [← hW] at HR HA ⊢
    obtain ⟨bat, hbat⟩ : ∃ b, b = w3.heap.size := ⟨_, rfl⟩
    rw [← hbat] at HA ⊢
    clear hW hbat
    obtain ⟨s0, s1, s2, s3⟩ := (unhide HA).cells
    clear q0 q1 q2 q3
    rcases unhide HGA with ⟨rfl, rfl, rfl, rfl⟩ | ⟨hnn, rfl, rfl⟩
    · go_wp2_with fail
      go_region_with (go_at_call 164; refine ((unhide HEND) _ _).mono ?_; rintro e x2 ⟨rfl, hb⟩; have HR2 : Hid (Sp wx x2 wx.heap.size 0 0) := hide (by first | exact (unhide HR).drew.more hb | exact (unhide HR).more hb); have HA2 : Hid (Sp wx x2 bat _ _) := hide (by first | exact (unhide HA).drew.more hb | exact (unhide HA).more hb); clear hb; obtain ⟨r0, r1, r2, r3⟩ := (unhide HR2).cells; obtain ⟨t0, t1, t2, t3⟩ := (unhide HA2).cells)
      all_goals go_wp2_with (go_at_call 164; refine ((unhide HEND) _ _).mono ?_; rintro e x3 ⟨rfl, hb⟩; have HR3 := hide ((unhide HR2).more hb); clear hb r0 r1 r2 r3; obtain ⟨r0, r1, r2, r3⟩ := (unhide HR3).cells)
      all_goals simp only [Exit.jump]
      all_goals have R := (unhide HR3).put ga (-1)
      all_goals exact bodyPost_ret (spot_ret1 (p := 6) Tryz.results166 (b := wx.heap.size) R.box _ rfl) rfl ⟨rfl, R.bel⟩
    · have hnb : (ga == -1 && gb == -1) = false := by
        rw [Bool.and_eq_false_iff]
        by_cases h1 : ga = -1
        · right; simp; exact fun h2 => hnn ⟨h1, h2⟩
        · left; simp [h1]
      clear hnn
      go_wp2_with fail
      go_region_with (go_at_call 164; refine ((unhide HEND) _ _).mono ?_; rintro e x2 ⟨rfl, hb⟩; have HR2 : Hid (Sp wx x2 wx.heap.size 0 0) := hide (by first | exact (unhide HR).drew.more hb | exact (unhide HR).more hb); have HA2 : Hid (Sp wx x2 bat _ _) := hide (by first | exact (unhide HA).drew.more hb | exact (unhide HA).more hb); clear hb; obtain ⟨r0, r1, r2, r3⟩ := (unhide HR2).cells; obtain ⟨t0, t1, t2, t3⟩ := (unhide HA2).cells)
      all_goals go_wp2
      all_goals simp only [Exit.jump]
      all_goals have R := (unhide HR2).put ga gb
      all_goals exact bodyPost_ret (spot_ret1 (p := 6) Tryz.results166 (b := wx.heap.size) R.box _ rfl) rfl ⟨rfl, R.bel⟩
  · rintro a' w' ⟨hR, bat, hA, hne, u3, u4, u5, u8, u9, u10, u11, u12, u13, u14, u15, u16, u17, u18, u19, u20, u21, u22, u23, u24, u25, u26, u27, u28, u29, u30, u31, u32, u33, u34, u35, u36, u37, u38, u39, u40, u41, u42, u43, u44, u45, u46, u47, u48, rfl⟩
    have HR := hide hR
    have HA := hide hA
    obtain ⟨s0, s1, s2, s3⟩ := hA.cells
    clear hR hA
    rcases unhide HGA with ⟨rfl, rfl, rfl, rfl⟩ | ⟨hnn, rfl, rfl⟩
    · go_wp2_with fail
      go_region_with (go_at_call 164; refine ((unhide HEND) _ _).mono ?_; rintro e x2 ⟨rfl, hb⟩; have HR2 : Hid (Sp wx x2 wx.heap.size 0 0) := hide (by first | exact (unhide HR).drew.more hb | exact (unhide HR).more hb); have HA2 : Hid (Sp wx x2 bat _ _) := hide (by first | exact (unhide HA).drew.more hb | exact (unhide HA).more hb); clear hb; obtain ⟨r0, r1, r2, r3⟩ := (unhide HR2).cells; obtain ⟨t0, t1, t2, t3⟩ := (unhide HA2).cells)
      all_goals go_wp2_with (go_at_call 164; refine ((unhide HEND) _ _).mono ?_; rintro e x3 ⟨rfl, hb⟩; have HR3 := hide ((unhide HR2).more hb); clear hb r0 r1 r2 r3; obtain ⟨r0, r1, r2, r3⟩ := (unhide HR3).cells)
      all_goals simp only [Exit.jump]
      all_goals have R := (unhide HR3).put ga (-1)
      all_goals exact bodyPost_ret (spot_ret1 (p := 6) Tryz.results166 (b := wx.heap.size) R.box _ rfl) rfl ⟨rfl, R.bel⟩
    · have hnb : (ga == -1 && gb == -1) = false := by
        rw [Bool.and_eq_false_iff]
        by_cases h1 : ga = -1
        · right; simp; exact fun h2 => hnn ⟨h1, h2⟩
        · left; simp [h1]
      clear hnn
      go_wp2_with fail
      go_region_with (go_at_call 164; refine ((unhide HEND) _ _).mono ?_; rintro e x2 ⟨rfl, hb⟩; have HR2 : Hid (Sp wx x2 wx.heap.size 0 0) := hide (by first | exact (unhide HR).drew.more hb | exact (unhide HR).more hb); have HA2 : Hid (Sp wx x2 bat _ _) := hide (by first | exact (unhide HA).drew.more hb | exact (unhide HA).more hb); clear hb; obtain ⟨r0, r1, r2, r3⟩ := (unhide HR2).cells; obtain ⟨t0, t1, t2, t3⟩ := (unhide HA2).cells)
      all_goals go_wp2
      all_goals simp only [Exit.jump]
      all_goals have R := (unhide HR2).put ga gb
      all_goals exact bodyPost_ret (spot_ret1 (p := 6) Tryz.results166 (b := wx.heap.size) R.box _ rfl) rfl ⟨rfl, R.bel⟩

end
end Go.Proofs.YtkakncngkmoegaaGreat

namespace Go.Proofs.YtkakncngkmoegaaGreat
open Go.RowKit

section
variable {w wx : World} {obs : List (Ob w.heap.size)} {i j bA bR bK bW : Nat} {os : List OneM} {L : List Int}
theorem foster_any (h : Env w wx obs) (hi : obs[i]? = some (aO _ bA os)) (hj : obs[j]? = some (stOb _ bK bA (keysO os) L)) (hij : i ≠ j) (hg : Good (keysO os) L) (t : Int) :
    Calls Tryz.prog 166 #[.pointer (some ⟨bA, 0, none⟩), .pointer (some ⟨bK, 0, none⟩), .int .i64 t] wx fun e w' => e = .returned (spotV (progF os L t).1 (progF os L t).2) ∧ Below wx.heap.size wx w' := by
  have hat : ∀ z : Nat, z < L.length → ∃ p : Nat, L[z]? = some (p : Int) ∧ p < os.length ∧ atM L (z : Int) = (p : Int) := by
    intro z hz
    obtain ⟨p, e, hp⟩ := elOf_nat (hg.el _ (List.getElem_mem hz))
    rw [keysO_len] at hp
    exact ⟨p, by rw [List.getElem?_eq_getElem hz, e], hp, by rw [atM_in (List.getElem?_eq_getElem hz)]; exact e⟩
  rcases scanL_lt (qK (keysO os) [tableB, tmplB]) L L.length with hs | ⟨z, hs, hzl, hq⟩
  · have e : progF os L t = (if L = [] then t else atM L 0, -1) := by unfold progF; rw [if_pos hs]
    rw [e]
    refine foster_none h hi hj hij hg t hs (atM L 0) (-1) rfl rfl _ _ ?_
    by_cases hL : L = []
    · left
      subst hL
      exact ⟨rfl, rfl, rfl, rfl⟩
    · right
      rw [if_neg hL]
      obtain ⟨p, _, _, e2⟩ := hat 0 (List.length_pos_iff.2 hL)
      have e3 : atM L 0 = (p : Int) := e2
      exact ⟨by rw [e3]; omega, rfl, rfl⟩
  · obtain ⟨p, hz, hp, hpa⟩ := hat z hzl
    have ho : os[p]? = some os[p] := List.getElem?_eq_getElem hp
    rw [hz] at hq
    have hq2 : isOfO os[p] [tableB, tmplB] = true := by rw [← qK_of ho]; exact hq
    have hkt : qK (keysO os) [tmplB] (p : Int) = isOfO os[p] [tmplB] := qK_of ho _
    have hup : upIO os (p : Int) = os[p].up := upIO_of ho
    unfold progF
    rw [hs, if_neg (show ¬ ((z : Int) = -1) by omega), hpa, hkt, hup]
    cases hT : isOfO os[p] [tmplB] with
    | true =>
      rw [if_pos rfl]
      exact foster_tmpl h hi hj hij hg t hs hz ho hT (p : Int) (-1) rfl rfl _ _ (.inr ⟨by omega, rfl, rfl⟩)
    | false =>
      rw [if_neg (by decide)]
      have hT2 : hasT [tmplB] os[p].name = false := by
        unfold isOfO at hq2 hT
        simp only [Bool.and_eq_true] at hq2
        rw [hq2.1.1, hq2.1.2] at hT
        simpa using hT
      by_cases hu : os[p].up = -1
      · rw [if_neg (fun hh => hh hu)]
        by_cases hz0 : z = 0
        · subst hz0
          rw [if_pos (show (((0 : Nat) : Int)) = 0 from rfl)]
          exact foster_down h hi hj hij hg t hs hz ho hT2 hu (atM L (((0 : Nat) : Int) - 1)) (-1) rfl rfl _ _ (.inl ⟨rfl, rfl, rfl, rfl⟩)
        · rw [if_neg (show ¬ ((z : Int) = 0) by omega)]
          obtain ⟨p2, _, _, e2⟩ := hat (z - 1) (by omega)
          have e3 : atM L ((z : Int) - 1) = (p2 : Int) := by rw [← e2]; congr 1; omega
          exact foster_down h hi hj hij hg t hs hz ho hT2 hu (atM L ((z : Int) - 1)) (-1) rfl rfl _ _ (.inr ⟨by rw [e3]; omega, rfl, rfl⟩)
      · rw [if_pos hu]
        exact foster_up h hi hj hij hg t hs hz ho hT2 hu os[p].up (p : Int) rfl rfl _ _ (.inr ⟨by omega, rfl, rfl⟩)

def partsB : List ByteArray := [⟨#[116, 97, 98, 108, 101]⟩, ⟨#[116, 98, 111, 100, 121]⟩, ⟨#[116, 102, 111, 111, 116]⟩, ⟨#[116, 104, 101, 97, 100]⟩, ⟨#[116, 114]⟩]
theorem named5 (h : Env w wx obs) (hi : obs[i]? = some (aO _ bA os)) {k : Nat} {o : OneM} (ho : os[k]? = some o) (ob : Obj) :
    Calls Tryz.prog 165 #[.pointer (some ⟨bA, 0, none⟩), .int .i64 k, .slice (some ⟨wx.heap.size + 1, 0, none⟩) 5 5] ((wx.alloc ob).alloc (.cells #[.string ⟨#[116, 97, 98, 108, 101]⟩, .string ⟨#[116, 98, 111, 100, 121]⟩, .string ⟨#[116, 102, 111, 111, 116]⟩, .string ⟨#[116, 104, 101, 97, 100]⟩, .string ⟨#[116, 114]⟩] 9)) fun e w' => e = .returned (.bool (isOfO o partsB)) ∧ Below (wx.alloc ob).heap.size (wx.alloc ob) w' := by
  have h1 := h.more (below_new wx ob)
  have := pNamed_any (h1.more (below_new _ (.cells (sRow partsB) 9))) hi ho partsB (by simp [partsB]) (wx.alloc ob).heap.size (tab_new (wx.alloc ob) partsB 9)
  rw [show (some (⟨(wx.alloc ob).heap.size, 0, none⟩ : Addr)) = some ⟨wx.heap.size + 1, 0, none⟩ by simp] at this
  refine Calls.mono this ?_
  rintro e w' ⟨rfl, hb⟩
  exact ⟨rfl, (below_new _ _).trans (hb.mono (by simp))⟩

/-- Where Spot leads, with foster parents. -/
def spotP (os : List OneM) (L : List Int) (k : Nat) : Int × Int := outP os (if qK (keysO os) partsB (k : Int) then progF os L (k : Int) else ((k : Int), -1))

set_option maxHeartbeats 2000000 in
set_option maxRecDepth 100000 in
theorem spot_foster (h : Env w wx obs) (hi : obs[i]? = some (aO _ bA os)) (hj : obs[j]? = some (stOb _ bK bA (keysO os) L)) (hij : i ≠ j) (hg : Good (keysO os) L) {k : Nat} {o : OneM} (ho : os[k]? = some o) {fp : Nat} {fb : Int} {oq : OneM} (hpos : (if isOfO o partsB then progF os L (k : Int) else ((k : Int), -1)) = ((fp : Int), fb)) (hoq : os[fp]? = some oq) :
    Calls Tryz.prog 132 #[.pointer (some ⟨bA, 0, none⟩), .pointer (some ⟨bK, 0, none⟩), .int .i64 k, .bool true] wx fun e w' => e = .returned (.tuple #[if isOfO oq [tmplB] then spotV oq.inner (-1) else spotV fp fb, .int .i64 0]) ∧ Env w w' obs := by
  have HE := hide h
  have HA := hide (fun W (hW : Env w W obs) => amadeA hW hi)
  have HS := hide (fun W (hW : Env w W obs) => amadeS hW hi hj hij hg)
  have HT := hide (fun W (hW : Env w W obs) ob x => athere1b hW hi ob x)
  have HO := hide (fun W (hW : Env w W obs) => out_any hW hi hoq fb)
  have HY := hide (hasO_of ho)
  have HAT := hide (fun (W : World) (x : Int) => atEnd_any W x)
  have HN := hide (fun W (hW : Env w W obs) ob => named5 hW hi ho ob)
  have HF := hide (fun W (hW : Env w W obs) => foster_any hW hi hj hij hg (k : Int))
  obtain ⟨sa, sb, hsp⟩ : ∃ sa sb, (if isOfO oq [tmplB] then spotV oq.inner (-1) else spotV fp fb) = spotV sa sb := by
    split
    · exact ⟨_, _, rfl⟩
    · exact ⟨_, _, rfl⟩
  rw [hsp] at HO ⊢
  clear h hi hj hg ho hsp hoq
  cases hc : isOfO o partsB with
  | true =>
    rw [hc, if_pos rfl] at hpos
    rw [hc] at HN
    rw [hpos] at HF
    unfold spotV at HO HAT HF ⊢
    clear hc hpos
    go_enter Tryz.func132, Tryz.ntmps132
    go_wp2_with (first
      | (go_at_call 161; refine ((unhide HA) _ ((unhide HE).more (below_new _ _))).mono ?_; rintro e w1 ⟨rfl, rfl⟩)
      | (go_at_call 162; refine ((unhide HS) _ ((unhide HE).more (below_new _ _))).mono ?_; rintro e w2 ⟨rfl, rfl⟩)
      | (go_at_call 163; refine ((unhide HT) _ (unhide HE) _ _).mono ?_; rintro e w3 ⟨rfl, rfl⟩; rw [unhide HY])
      | (go_at_call 164; refine ((unhide HAT) _ _).mono ?_; rintro e w4 ⟨rfl, hb4⟩; have HS4 := hide (((Sp.new wx 0 0).alloc _).more hb4); clear hb4)
      | (go_at_call 165; refine ((unhide HN) _ ((unhide HE).more (unhide HS4).bel) _).mono ?_; rintro e w5 ⟨rfl, hb⟩; have HS5 := hide (((unhide HS4).alloc _).more hb); have HA5 := hide ((show Sp wx (w4.alloc (.cells #[.int .i64 k, .int .i64 (-1)] 159)) w4.heap.size k (-1) from ⟨((unhide HS4).alloc _).bel, (unhide HS4).bel.size, Box2.new w4 k (-1)⟩).more hb); have HNE := hide (show wx.heap.size ≠ w4.heap.size from by have h1 := lt_of_block (unhide HS4).box; omega); clear hb; obtain ⟨q0, q1, q2, q3⟩ := (unhide HA5).cells)
      | (go_at_call 166; refine ((unhide HF) _ ((unhide HE).more (unhide HS5).bel)).mono ?_; rintro e w6 ⟨rfl, hb⟩; have HS6 := hide ((unhide HS5).more hb); have HA6 := hide ((unhide HA5).more hb); clear hb q0 q1 q2 q3; obtain ⟨q0, q1, q2, q3⟩ := (unhide HA6).cells)
      | (go_at_call 167; refine ((unhide HO) _ ((unhide HE).more ((unhide HA6).put fp fb).bel)).mono ?_; rintro e w7 ⟨rfl, hb⟩; have HS7 := hide (((unhide HS6).far (unhide HA6).le (unhide HNE) fp fb).more hb); clear hb q0 q1 q2 q3; obtain ⟨q0, q1, q2, q3⟩ := (unhide HS7).cells))
    have R := (unhide HS7).put sa sb
    exact bodyPost_ret (spot_ret (p := 8) (u := 9) Tryz.results132 (b := wx.heap.size) R.box _ _ rfl rfl) rfl ⟨rfl, (unhide HE).more R.bel⟩
  | false =>
    rw [hc, if_neg (by decide)] at hpos
    rw [hc] at HN
    obtain ⟨e1, e2⟩ := Prod.mk.inj hpos
    have e3 : k = fp := by omega
    subst e3
    subst e2
    unfold spotV at HO HAT ⊢
    clear hc hpos e1 HF
    go_enter Tryz.func132, Tryz.ntmps132
    go_wp2_with (first
      | (go_at_call 161; refine ((unhide HA) _ ((unhide HE).more (below_new _ _))).mono ?_; rintro e w1 ⟨rfl, rfl⟩)
      | (go_at_call 162; refine ((unhide HS) _ ((unhide HE).more (below_new _ _))).mono ?_; rintro e w2 ⟨rfl, rfl⟩)
      | (go_at_call 163; refine ((unhide HT) _ (unhide HE) _ _).mono ?_; rintro e w3 ⟨rfl, rfl⟩; rw [unhide HY])
      | (go_at_call 164; refine ((unhide HAT) _ _).mono ?_; rintro e w4 ⟨rfl, hb4⟩; have HS4 := hide (((Sp.new wx 0 0).alloc _).more hb4); clear hb4)
      | (go_at_call 165; refine ((unhide HN) _ ((unhide HE).more (unhide HS4).bel) _).mono ?_; rintro e w5 ⟨rfl, hb⟩; have HS5 := hide (((unhide HS4).alloc _).more hb); have HA5 := hide ((show Sp wx (w4.alloc (.cells #[.int .i64 k, .int .i64 (-1)] 159)) w4.heap.size k (-1) from ⟨((unhide HS4).alloc _).bel, (unhide HS4).bel.size, Box2.new w4 k (-1)⟩).more hb); have HNE := hide (show wx.heap.size ≠ w4.heap.size from by have h1 := lt_of_block (unhide HS4).box; omega); clear hb; obtain ⟨q0, q1, q2, q3⟩ := (unhide HA5).cells)
      | (go_at_call 167; refine ((unhide HO) _ ((unhide HE).more (unhide HA5).bel)).mono ?_; rintro e w7 ⟨rfl, hb⟩; have HS7 := hide ((unhide HS5).more hb); clear hb q0 q1 q2 q3; obtain ⟨q0, q1, q2, q3⟩ := (unhide HS7).cells))
    have R := (unhide HS7).put sa sb
    exact bodyPost_ret (spot_ret (p := 8) (u := 9) Tryz.results132 (b := wx.heap.size) R.box _ _ rfl rfl) rfl ⟨rfl, (unhide HE).more R.bel⟩
end
end Go.Proofs.YtkakncngkmoegaaGreat
