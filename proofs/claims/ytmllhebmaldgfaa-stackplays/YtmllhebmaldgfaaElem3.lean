import Derived.Test.YtmllhebmaldgfaaElem2
/-
  Element: a template with its contents; no room.
-/
namespace Go.Proofs.Ytmllhebmaldgfaa
open Go.RowKit

theorem mod4 (w : World) (b : Nat) (v1 v2 v3 v4 : Value) (o1 o2 : Obj) : Mod (fun k => k = b) w ((((((w.setCell ⟨b, 1, none⟩ v1).setCell ⟨b, 2, none⟩ v2).setCell ⟨b, 3, none⟩ v3).setCell ⟨b, 11, none⟩ v4).alloc o1).alloc o2).drew :=
  ((((((Mod.setCell (F := fun k => k = b) w ⟨b, 1, none⟩ v1 rfl).trans (Mod.setCell (F := fun k => k = b) _ ⟨b, 2, none⟩ v2 rfl)).trans (Mod.setCell (F := fun k => k = b) _ ⟨b, 3, none⟩ v3 rfl)).trans (Mod.setCell (F := fun k => k = b) _ ⟨b, 11, none⟩ v4 rfl)).trans (Mod.alloc _ o1)).trans (Mod.alloc _ o2)).trans (Mod.of_below (Below.refl _ _).drew)

theorem last_block_drew (w : World) (o : Obj) (k : Nat) (hk : k = w.heap.size) : (w.alloc o).drew.heap[k]? = some o := last_block w o k hk

set_option maxHeartbeats 4000000 in
theorem element_tmpl {w : World} {base bA : Nat} {ns : List NodeM} {F : Nat → Prop} (h : ArS w base bA ns F) (name : ByteArray) (a : Option Addr) (cap : Nat) (l : List AttrM) (hl : AttrsIn w a l)
    (hs : isT name = true) (hlong : longE name l = false) (hf : ns.length + 2 ≤ 32768) :
    Calls Try.prog 27 #[.pointer (some ⟨bA, 0, none⟩), .int .i64 0, .string name, .slice a l.length cap] w fun e w' => e = .returned (.tuple #[.int .i64 ns.length, .int .i64 0]) ∧
      ∃ av, Upd F w w' base bA (ns ++ [{ elemN 0 name l av with inner := ns.length + 1 }, blankM 5]) := by
  have hbase := h.base_le
  obtain ⟨bS, g, cp, h, hF⟩ := h
  have hlen : l.length ≤ 1024 := by simp [longE] at hlong; omega
  have hnm : longS name = false := by simp [longE] at hlong; exact hlong.1.1
  have hla : l.any AttrM.long = false := by simp [longE] at hlong; simpa using hlong.2
  have HM := hide (made_yes h)
  have HL := hide (anyLong_any (w.alloc (.cells #[.string name] 9)) w.heap.size 1 [name] (one_cell_s w 9 name) (by simp))
  have hl1 := hl.below ((Below.refl _ w).alloc (Nat.le_refl _) (.cells #[.string name] 9))
  have HA := hide (anyLongAttr_any (w.alloc (.cells #[.string name] 9)) a cap l hl1 (by unfold maxLen; omega))
  have HB1 := hide ((Below.refl _ w).alloc (Nat.le_refl _) (.cells #[.string name] 9))
  have e1 : [name].any longS = longS name := by simp
  rw [e1, hnm] at HL
  rw [hla] at HA
  have HI := hide hl1
  have HH := hide h
  have HF := hide hF
  have ltA := h.lt.1
  have ltS := h.lt.2.1
  clear h hF hl hl1 e1 hnm hla hlong
  unfold isT at hs
  have hc' : ¬ (1024 : Int) < (l.length : Int) := by omega
  go_enter Try.func27, Try.ntmps27
  go_wp2_with (first
      | (go_at_call 60; refine (unhide HM).mono ?_; rintro e w' ⟨rfl, rfl⟩)
      | (go_at_call 77; refine (unhide HL).mono ?_; rintro e w' ⟨rfl, rfl⟩)
      | (go_at_call 78; refine (unhide HA).mono ?_; rintro e w2 ⟨rfl, hb2⟩; have HB2 := hide hb2; have sz2 : w.heap.size < w2.heap.size := (by have := hb2.size; simp at this; omega); have neA : ¬ bA = w2.heap.size + 1 := (by omega); have neS : ¬ bS = w2.heap.size + 1 := (by omega); clear hb2)
      | (go_at_call 76; refine (blank_any _).mono ?_; rintro e w' ⟨rfl, rfl⟩)
      | (go_at_call 62; refine (ownAttrs_any _ base (by have := (unhide HB2).size; simp at this ⊢; omega) a cap l ((((unhide HI).below (unhide HB2)).below ((Below.refl _ _).alloc (Nat.le_refl _) _)).below ((Below.refl _ _).alloc (Nat.le_refl _) _)) hlen).mono ?_; rintro e w4 ⟨ao, cp4, rfl, hov, hb4, hfr⟩; have HOV := hide hov; have HB4 := hide hb4; have HFR := hide hfr; have hz4 : w2.heap.size + 1 < w4.heap.size := (by have := hb4.size; simp at this; omega); have har4 := ((((unhide HH).below (unhide HB1)).below (unhide HB2)).alloc _ |>.alloc _).below hb4; have hA4 := har4.cA; have hS4 := har4.cS; obtain ⟨bc, bf⟩ := bcell hb4; simp at bc bf; clear hov hb4 hfr har4))
  go_region_with (first
      | (go_at_call 76; refine (blank_any _).mono ?_; rintro e w' ⟨rfl, rfl⟩)
      | (go_at_call 79; obtain ⟨R1, R2, R3, R4⟩ := elem_ready (unhide HH) (unhide HB1) (unhide HB2) _ _ (unhide HB4) (mod4 w4 _ _ _ _ _ _ _) l hlen _ (unhide HOV) (unhide HFR) { elemN 0 name l (.slice ao l.length cp4) with inner := ns.length + 1 } rfl rfl [blankM 5] (by simp [blankM]); refine (add_fits2 (n := { elemN 0 name l (.slice ao l.length cp4) with inner := ns.length + 1 }) (m := blankM 5) R2 R3 hf _ _ (last_block_drew _ _ _ (by simp))).mono ?_; rintro e w' ⟨rfl, g', cap', har, hmod, hgg⟩; have HR1 := hide R1; have HR4 := hide R4; clear R1 R2 R3 R4 bc bf))
  all_goals go_wp2
  all_goals go_ret2
  all_goals exact ⟨rfl, _, upd_add (unhide HF) (unhide HR1) har hmod hgg (unhide HR4)⟩
end Go.Proofs.Ytmllhebmaldgfaa
