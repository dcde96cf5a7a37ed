/-
  Proved: of any two scripts of calls and any two numbers, package show and the document tell alike whether the two nodes are alike: ShowSames returns true for every input, and changes nothing. Conditions: none beyond the given row's own.
-/
import Derived.Test.YtlbkoafeedlfaaaSxA
import Derived.Test.YtlbkoafeedlfaaaRfE
import Derived.Test.YtlbkoafeedlfaaaRf9
import Derived.Test.YtlbkoafeedlfaaaPlay
import Derived.Test.YtlbkoafeedlfaaaOpen
import Derived.ProofKit
import Derived.OpenShut
import Derived.ChangeOld
namespace Go.Proofs.Ytlbkoafeedlfaaa
open Go.RowKit

theorem osOf_bk {rs : List OneR} {p : Nat} {o : OneM} (h : (osOf rs)[p]? = some o) : ∃ r, rs[p]? = some r ∧ r.o = o := by
  simp only [osOf, List.getElem?_map, Option.map_eq_some_iff] at h
  exact h
theorem allF_len {g : Nat → Nat → Bool} : ∀ {l m : List Nat}, allF g l m = true → l.length = m.length
  | [], [], _ => rfl
  | [], _ :: _, h => by cases h
  | _ :: _, [], h => by cases h
  | a :: l, b :: m, h => by
    rw [allF, Bool.and_eq_true] at h
    simp [allF_len h.2]
theorem allF_no {g : Nat → Nat → Bool} : ∀ {l m : List Nat} {j x y : Nat}, l[j]? = some x → m[j]? = some y → g x y = false → allF g l m = false
  | [], _, _, _, _, h, _, _ => by simp at h
  | _ :: _, [], _, _, _, _, h, _ => by simp at h
  | a :: l, b :: m, 0, x, y, h1, h2, h3 => by
    simp at h1 h2; subst h1 h2; rw [allF, h3]; rfl
  | a :: l, b :: m, j + 1, x, y, h1, h2, h3 => by
    rw [allF, allF_no (l := l) (m := m) (j := j) (by simpa using h1) (by simpa using h2) h3]; simp
theorem allF_yes {g : Nat → Nat → Bool} : ∀ {l m : List Nat}, l.length = m.length → (∀ (j : Nat) x y, l[j]? = some x → m[j]? = some y → g x y = true) → allF g l m = true
  | [], [], _, _ => rfl
  | [], _ :: _, h, _ => by simp at h
  | _ :: _, [], h, _ => by simp at h
  | a :: l, b :: m, h, h2 => by
    rw [allF, h2 0 a b rfl rfl, allF_yes (by simpa using h) (fun j x y hx hy => h2 (j + 1) x y (by simpa using hx) (by simpa using hy))]; rfl
theorem innerL_len (o : OneM) : (innerL o).length = if o.inner = -1 then 0 else 1 := by unfold innerL; split <;> simp

theorem SS_bad {ns : List NodeM} {os os' : List OneM} (sA : Sim ns os) {x y : Nat} {o p : OneM} (ho : os[x]? = some o) (hp : os'[y]? = some p)
    (h : o.kind ≠ p.kind ∨ o.space ≠ p.space ∨ (o.name.toList == p.name.toList) = false ∨ (o.data.toList == p.data.toList) = false ∨ (o.system.toList == p.system.toList) = false ∨ o.attrs.length ≠ p.attrs.length ∨ o.kids.length ≠ p.kids.length ∨ ¬ (o.inner = -1 ↔ p.inner = -1)) : SS os os' x y = false := by
  rw [SS_some sA ho hp]
  cases h1 : eqD o p with
  | false => rfl
  | true =>
    cases h2 : allF (SS os os') o.kids p.kids with
    | false => rfl
    | true =>
      cases h3 : allF (SS os os') (innerL o) (innerL p) with
      | false => rfl
      | true =>
        exfalso
        unfold eqD at h1
        simp only [Bool.and_eq_true, beq_iff_eq] at h1
        obtain ⟨⟨⟨⟨⟨e0, e1⟩, e2⟩, e3⟩, e4⟩, e5⟩ := h1
        have l2 := allF_len h2
        have l3 := allF_len h3
        have l5 := attrsEq_len e5
        rw [innerL_len, innerL_len] at l3
        rcases h with h | h | h | h | h | h | h | h
        · exact h e0
        · exact h e1
        · rw [← beq_toListBytes, e2] at h; cases h
        · rw [← beq_toListBytes, e3] at h; cases h
        · rw [← beq_toListBytes, e4] at h; cases h
        · exact h l5
        · exact h l2
        · apply h
          split at l3 <;> split at l3 <;> simp_all

theorem eqD_rest {o p : OneM} (h0 : o.kind = p.kind) (h1 : o.space = p.space) (h2 : (o.name.toList == p.name.toList) = true) (h3 : (o.data.toList == p.data.toList) = true) (h4 : (o.system.toList == p.system.toList) = true) : eqD o p = attrsEq o.attrs p.attrs := by
  unfold eqD
  rw [beq_toListBytes o.name, beq_toListBytes o.data, beq_toListBytes o.system, h2, h3, h4, h0, h1]
  simp

set_option maxHeartbeats 8000000 in
theorem refSame_in {w : World} {b1 b2 bR bR' g g' cap cap' : Nat} {rs rs' : List OneR} {ns ns' : List NodeM} (h1 : Rf w b1 bR g cap rs) (h2 : Rf w b2 bR' g' cap' rs') (sA : Sim ns (osOf rs)) (sB : Sim ns' (osOf rs')) {i j : Nat} {r r' : OneR} (hi : rs[i]? = some r) (hj : rs'[j]? = some r')
    (ih : ∀ (c : Nat) (c' : Int), c ∈ belowO r.o → ∀ W, Below w.heap.size w W → Calls Try.prog 32 #[.pointer (some ⟨bR, 0, none⟩), .int .i64 c, .pointer (some ⟨bR', 0, none⟩), .int .i64 c'] W fun e w' => e = .returned (.bool (SSI (osOf rs) (osOf rs') c c')) ∧ Below W.heap.size W w')
    (W : World) (hW : Below w.heap.size w W) :
    Calls Try.prog 32 #[.pointer (some ⟨bR, 0, none⟩), .int .i64 i, .pointer (some ⟨bR', 0, none⟩), .int .i64 j] W fun e w' => e = .returned (.bool (SS (osOf rs) (osOf rs') i j)) ∧ Below W.heap.size W w' := by
  have hI1 := refIs_any (h1.below hW) i
  have hI2 := refIs_any (h2.below hW) j
  have ho := osOf_get hi
  have hp := osOf_get hj
  rw [hasO_of ho] at hI1
  rw [hasO_of hp] at hI2
  have HI1 := hide hI1
  have HI2 := hide hI2
  have hlt : (i : Int) < (rs.length : Int) := by have := (List.getElem?_eq_some_iff.1 hi).1; omega
  have hlt' : (j : Int) < (rs'.length : Int) := by have := (List.getElem?_eq_some_iff.1 hj).1; omega
  have hA := (h1.below hW).cR
  have hA' := (h2.below hW).cR
  have hm := h1.most
  have hm' := h2.most
  have bg := ((h1.below hW).lt).2
  have bg' := ((h2.below hW).lt).2
  have br' := ((h2.below hW).lt).1
  obtain ⟨c0, c1, c2, c3, c4, c5, c6, c7, c8, c9⟩ := (h1.below hW).cells10 hi
  obtain ⟨d0, d1, d2, d3, d4, d5, d6, d7, d8, d9⟩ := (h2.below hW).cells10 hj
  obtain ⟨aa, ac, eav, hav, hal, _⟩ := h1.attrs i r hi
  obtain ⟨ka, kc, ekv, hkv, hkl⟩ := h1.kids i r hi
  obtain ⟨aa', ac', eav', hav', hal', _⟩ := h2.attrs j r' hj
  obtain ⟨ka', kc', ekv', hkv', hkl'⟩ := h2.kids j r' hj
  rw [eav] at c3
  rw [ekv] at c9
  rw [eav'] at d3
  rw [ekv'] at d9
  have HAV := hide (hav.below hW)
  have HAV' := hide (hav'.below hW)
  have HKV := hide (hkv.below hW)
  have HKV' := hide (hkv'.below hW)
  have HIH := hide ih
  have HBAD := hide (fun h => SS_bad sA ho hp h)
  have HSS := hide (SS_some sA ho hp)
  have HDOWN : Hid (∀ (q c' : Nat), r'.o.kids[q]? = some c' → hasO (osOf rs') c' = true) := hide (fun q c' hq => by obtain ⟨m, hm, _⟩ := sB.down j r'.o c' hp (List.mem_of_getElem? hq); exact hasO_of hm)
  have HDOWN1 : Hid (∀ (q c : Nat), r.o.kids[q]? = some c → hasO (osOf rs) c = true) := hide (fun q c hq => by obtain ⟨m, hm, _⟩ := sA.down i r.o c ho (List.mem_of_getElem? hq); exact hasO_of hm)
  have HIN : Hid (r.o.inner ≠ -1 → r'.o.inner ≠ -1 → ∃ c c' : Nat, r.o.inner = c ∧ r'.o.inner = c' ∧ c ∈ belowO r.o ∧ innerL r.o = [c] ∧ innerL r'.o = [c'] ∧ hasO (osOf rs) c = true ∧ hasO (osOf rs') c' = true) := hide (fun e1 e2 => by
    have l1 : innerL r.o = [r.o.inner.toNat] := by unfold innerL; rw [if_neg e1]
    have l2 : innerL r'.o = [r'.o.inner.toNat] := by unfold innerL; rw [if_neg e2]
    obtain ⟨f1, m, hm, _⟩ := sA.inner_facts ho (c := r.o.inner.toNat) (by rw [l1]; simp)
    obtain ⟨f2, m', hm', _⟩ := sB.inner_facts hp (c := r'.o.inner.toNat) (by rw [l2]; simp)
    exact ⟨_, _, f1, f2, by unfold belowO; rw [l1]; simp, l1, l2, hasO_of hm, hasO_of hm'⟩)
  have HW := hide hW
  have hil : (r.o.attrs.length : Int) ≤ 1024 := by omega
  have hkz : (r.o.kids.length : Int) ≤ 32768 := by omega
  generalize r.o = o at *
  generalize r'.o = p at *
  clear h1 h2 sA sB hi hj ih hI1 hI2 ho hp eav hav hal ekv hkv hkl eav' hav' hal' ekv' hkv' hkl' hW
  by_cases e0 : ¬ (o.kind = p.kind)
  · have b0 : (o.kind != p.kind) = true := by rw [bne_iff_ne]; exact e0
    have HR := hide ((unhide HBAD) (.inl e0))
    clear HBAD HSS e0
    go_enter Try.func32, Try.ntmps32
    set_option maxRecDepth 10000 in
    go_wp2_with (go_at_call 79; first | (refine (unhide HI1).mono ?_; rintro e w' ⟨rfl, rfl⟩; clear HI1) | (refine (unhide HI2).mono ?_; rintro e w' ⟨rfl, rfl⟩))
    go_ret
    exact ⟨by rw [unhide HR]; rfl, ((Below.refl _ _).alloc (Nat.le_refl _) _).alloc (by simp) _⟩
  have f0 : o.kind = p.kind := Decidable.of_not_not e0
  have b0 : (o.kind != p.kind) = false := by simp [f0]
  have E0 := hide f0
  clear e0 f0
  by_cases e1 : ¬ (o.space = p.space)
  · have b1 : (o.space != p.space) = true := by rw [bne_iff_ne]; exact e1
    have HR := hide ((unhide HBAD) (.inr (.inl e1)))
    clear HBAD HSS e1
    go_enter Try.func32, Try.ntmps32
    set_option maxRecDepth 10000 in
    go_wp2_with (go_at_call 79; first | (refine (unhide HI1).mono ?_; rintro e w' ⟨rfl, rfl⟩; clear HI1) | (refine (unhide HI2).mono ?_; rintro e w' ⟨rfl, rfl⟩))
    go_ret
    exact ⟨by rw [unhide HR]; rfl, ((Below.refl _ _).alloc (Nat.le_refl _) _).alloc (by simp) _⟩
  have f1 : o.space = p.space := Decidable.of_not_not e1
  have b1 : (o.space != p.space) = false := by simp [f1]
  have E1 := hide f1
  clear e1 f1
  cases b2 : (o.name.toList == p.name.toList)
  · have HR := hide ((unhide HBAD) (.inr (.inr (.inl b2))))
    clear HBAD HSS 
    go_enter Try.func32, Try.ntmps32
    set_option maxRecDepth 10000 in
    go_wp2_with (go_at_call 79; first | (refine (unhide HI1).mono ?_; rintro e w' ⟨rfl, rfl⟩; clear HI1) | (refine (unhide HI2).mono ?_; rintro e w' ⟨rfl, rfl⟩))
    go_ret
    exact ⟨by rw [unhide HR]; rfl, ((Below.refl _ _).alloc (Nat.le_refl _) _).alloc (by simp) _⟩
  have E2 := hide b2
  cases b3 : (o.data.toList == p.data.toList)
  · have HR := hide ((unhide HBAD) (.inr (.inr (.inr (.inl b3)))))
    clear HBAD HSS 
    go_enter Try.func32, Try.ntmps32
    set_option maxRecDepth 10000 in
    go_wp2_with (go_at_call 79; first | (refine (unhide HI1).mono ?_; rintro e w' ⟨rfl, rfl⟩; clear HI1) | (refine (unhide HI2).mono ?_; rintro e w' ⟨rfl, rfl⟩))
    go_ret
    exact ⟨by rw [unhide HR]; rfl, ((Below.refl _ _).alloc (Nat.le_refl _) _).alloc (by simp) _⟩
  have E3 := hide b3
  cases b4 : (o.system.toList == p.system.toList)
  · have HR := hide ((unhide HBAD) (.inr (.inr (.inr (.inr (.inl b4))))))
    clear HBAD HSS 
    go_enter Try.func32, Try.ntmps32
    set_option maxRecDepth 10000 in
    go_wp2_with (go_at_call 79; first | (refine (unhide HI1).mono ?_; rintro e w' ⟨rfl, rfl⟩; clear HI1) | (refine (unhide HI2).mono ?_; rintro e w' ⟨rfl, rfl⟩))
    go_ret
    exact ⟨by rw [unhide HR]; rfl, ((Below.refl _ _).alloc (Nat.le_refl _) _).alloc (by simp) _⟩
  have E4 := hide b4
  by_cases e5 : ¬ (o.attrs.length = p.attrs.length)
  · have b5 : ((o.attrs.length : Int) != (p.attrs.length : Int)) = true := by rw [bne_iff_ne]; omega
    have HR := hide ((unhide HBAD) (.inr (.inr (.inr (.inr (.inr (.inl e5)))))))
    clear HBAD HSS e5
    go_enter Try.func32, Try.ntmps32
    set_option maxRecDepth 10000 in
    go_wp2_with (go_at_call 79; first | (refine (unhide HI1).mono ?_; rintro e w' ⟨rfl, rfl⟩; clear HI1) | (refine (unhide HI2).mono ?_; rintro e w' ⟨rfl, rfl⟩))
    go_ret
    exact ⟨by rw [unhide HR]; rfl, ((Below.refl _ _).alloc (Nat.le_refl _) _).alloc (by simp) _⟩
  have f5 : o.attrs.length = p.attrs.length := Decidable.of_not_not e5
  have b5 : ((o.attrs.length : Int) != (p.attrs.length : Int)) = false := by simp [f5]
  have E5 := hide f5
  clear e5 f5
  by_cases e6 : ¬ (o.kids.length = p.kids.length)
  · have b6 : ((o.kids.length : Int) != (p.kids.length : Int)) = true := by rw [bne_iff_ne]; omega
    have HR := hide ((unhide HBAD) (.inr (.inr (.inr (.inr (.inr (.inr (.inl e6))))))))
    clear HBAD HSS e6
    go_enter Try.func32, Try.ntmps32
    set_option maxRecDepth 10000 in
    go_wp2_with (go_at_call 79; first | (refine (unhide HI1).mono ?_; rintro e w' ⟨rfl, rfl⟩; clear HI1) | (refine (unhide HI2).mono ?_; rintro e w' ⟨rfl, rfl⟩))
    go_ret
    exact ⟨by rw [unhide HR]; rfl, ((Below.refl _ _).alloc (Nat.le_refl _) _).alloc (by simp) _⟩
  have f6 : o.kids.length = p.kids.length := Decidable.of_not_not e6
  have b6 : ((o.kids.length : Int) != (p.kids.length : Int)) = false := by simp [f6]
  have E6 := hide f6
  clear e6 f6
  by_cases i1 : o.inner = -1
  · by_cases i2 : p.inner = -1
    · have j1 : (o.inner == -1) = true := by simp [i1]
      have j2 : (p.inner == -1) = true := by simp [i2]
      have HFI : Hid (allF (SS (osOf rs) (osOf rs')) (innerL o) (innerL p) = true) := hide (by unfold innerL; rw [if_pos i1, if_pos i2]; rfl)
      clear i1 i2 HIN
      have HEQ : Hid (eqD o p = attrsEq o.attrs p.attrs) := hide (eqD_rest (unhide E0) (unhide E1) (unhide E2) (unhide E3) (unhide E4))
      clear HBAD E0 E1 E2 E3 E4
      obtain ⟨WB, hWB⟩ : ∃ WB : World, WB = (W.alloc (.cells #[.int .i64 o.kind, .int .i64 o.space, .string o.name, .slice aa o.attrs.length ac, .string o.data, .string o.system, .int .i64 o.inner, .int .i64 o.host, .int .i64 o.up, .slice ka o.kids.length kc] 76)).alloc (.cells #[.int .i64 p.kind, .int .i64 p.space, .string p.name, .slice aa' p.attrs.length ac', .string p.data, .string p.system, .int .i64 p.inner, .int .i64 p.host, .int .i64 p.up, .slice ka' p.kids.length kc'] 76) := ⟨_, rfl⟩
      have HBX : Hid (Below W.heap.size W WB) := hide (by rw [hWB]; exact ((Below.refl _ _).alloc (Nat.le_refl _) _).alloc (by simp) _)
      have HCELL : Hid (∀ wx, Below WB.heap.size WB wx → wx.cell? ⟨W.heap.size, 3, none⟩ = some (.slice aa o.attrs.length ac) ∧ wx.cell? ⟨W.heap.size, 6, none⟩ = some (.int .i64 o.inner) ∧ wx.cell? ⟨W.heap.size, 9, none⟩ = some (.slice ka o.kids.length kc) ∧ wx.cell? ⟨W.heap.size + 1, 3, none⟩ = some (.slice aa' p.attrs.length ac') ∧ wx.cell? ⟨W.heap.size + 1, 6, none⟩ = some (.int .i64 p.inner) ∧ wx.cell? ⟨W.heap.size + 1, 9, none⟩ = some (.slice ka' p.kids.length kc')) := hide (fun wx hb => by
        subst hWB
        refine ⟨?_, ?_, ?_, ?_, ?_, ?_⟩
        all_goals (rw [hb.cell (by simp <;> omega)]; simp))
      have HWB := hide hWB
      clear hWB
      go_enter Try.func32, Try.ntmps32
      set_option maxRecDepth 10000 in
      go_wp2_with (go_at_call 79; first | (refine (unhide HI1).mono ?_; rintro e w' ⟨rfl, rfl⟩; clear HI1) | (refine (unhide HI2).mono ?_; rintro e w' ⟨rfl, rfl⟩))
      go_loopg [11] o.attrs.length (fun k s wx => ∃ q : Nat, s = .int .i64 q ∧ q + k = o.attrs.length ∧ Below WB.heap.size WB wx ∧ ∀ (t : Nat) x y, t < q → o.attrs[t]? = some x → p.attrs[t]? = some y → attrEq x y = true)
      case atStart => exact ⟨0, rfl, by omega, by rw [unhide HWB]; exact Below.refl _ _, fun t x y h => by omega⟩
      case round =>
        clear c0 c1 c2 c3 c4 c5 c6 c7 c8 c9 d0 d1 d2 d3 d4 d5 d6 d7 d8 d9 hA hA'
        obtain ⟨q, rfl, hqk, hb, hpre⟩ := hrel
        have HPA := hide hpre
        have HBA := hide hb
        obtain ⟨z3, z6, z9, y3, y6, y9⟩ := (unhide HCELL) wr hb
        clear hpre hb
        by_cases hq : q < o.attrs.length
        · have hqz : (q : Int) < (o.attrs.length : Int) := by omega
          obtain ⟨x, hx⟩ : ∃ x, o.attrs[q]? = some x := ⟨_, List.getElem?_eq_getElem hq⟩
          obtain ⟨y, hy⟩ : ∃ y, p.attrs[q]? = some y := ⟨_, List.getElem?_eq_getElem (by rw [← unhide E5]; exact hq)⟩
          have hqp : (q : Int) < (p.attrs.length : Int) := by rw [← unhide E5]; exact hqz
          obtain ⟨ba, oa, rfl, a0, a1, a2, a3⟩ := ((unhide HAV).below ((unhide HBX).trans ((unhide HBA).mono (unhide HBX).size))).cells q _ hx
          obtain ⟨bb, ob, rfl, e0, e1, e2, e3⟩ := ((unhide HAV').below ((unhide HBX).trans ((unhide HBA).mono (unhide HBX).size))).cells q _ hy
          have HX := hide hx
          have HY := hide hy
          have hg := guard29
          clear hx hy
          cases he : attrEq x y with
          | true =>
            have HE := hide he
            have hqq := fun W => neqAttr x y W
            rw [he] at hqq
            clear he
            set_option maxRecDepth 10000 in
            go_wp2
            set_option maxRecDepth 10000 in
            go_quiet (fail)
            set_option maxRecDepth 10000 in
            go_wp2
            go_roundg (gk - 1)
            case measure => omega
            case rel =>
              refine ⟨q + 1, by go_num, by omega, below_drewN' (unhide HBA) _, fun t x' y' ht hx' hy' => ?_⟩
              by_cases e : t = q
              · subst e; rw [unhide HX] at hx'; rw [unhide HY] at hy'; cases hx'; cases hy'; exact unhide HE
              · exact (unhide HPA) t x' y' (by omega) hx' hy'
          | false =>
            have HE := hide he
            have hqq := fun W => neqAttr x y W
            rw [he] at hqq
            clear he
            set_option maxRecDepth 10000 in
            go_wp2
            set_option maxRecDepth 10000 in
            go_quiet (fail)
            set_option maxRecDepth 10000 in
            go_wp2
            go_ret
            refine ⟨?_, (unhide HBX).trans ((below_drewN' (unhide HBA) _).mono (unhide HBX).size)⟩
            rw [unhide HSS, unhide HEQ, attrsEq_no (unhide HX) (unhide HY) (unhide HE)]
            rfl
        · have hqz : ¬ (q : Int) < (o.attrs.length : Int) := by omega
          have HAT : Hid (attrsEq o.attrs p.attrs = true) := hide (attrsEq_yes (unhide E5) (fun t x y hx hy => (unhide HPA) t x y (by have := (List.getElem?_eq_some_iff.1 hx).1; omega) hx hy))
          clear HPA hq hqk
          set_option maxRecDepth 10000 in
          go_wp2
          go_loopg [12] o.kids.length (fun k s wx => ∃ q : Nat, s = .int .i64 q ∧ q + k = o.kids.length ∧ Below WB.heap.size WB wx ∧ ∀ (t : Nat) x y, t < q → o.kids[t]? = some x → p.kids[t]? = some y → SS (osOf rs) (osOf rs') x y = true)
          case atStart => exact ⟨0, rfl, by omega, unhide HBA, fun t x y h => by omega⟩
          case round =>
            clear z3 z6 z9 y3 y6 y9 HBA
            obtain ⟨q2, rfl, hqk, hb, hpre⟩ := hrel
            have HPK := hide hpre
            have HBK := hide hb
            have HBWK := hide ((unhide HW).trans (((unhide HBX).trans (hb.mono (unhide HBX).size)).mono (unhide HW).size))
            obtain ⟨z3, z6, z9, y3, y6, y9⟩ := (unhide HCELL) wr hb
            clear hpre hb
            by_cases hq : q2 < o.kids.length
            · have hqz2 : (q2 : Int) < (o.kids.length : Int) := by omega
              obtain ⟨x, hx⟩ : ∃ x, o.kids[q2]? = some x := ⟨_, List.getElem?_eq_getElem hq⟩
              obtain ⟨y, hy⟩ : ∃ y, p.kids[q2]? = some y := ⟨_, List.getElem?_eq_getElem (by rw [← unhide E6]; exact hq)⟩
              have hqp : (q2 : Int) < (p.kids.length : Int) := by rw [← unhide E6]; exact hqz2
              obtain ⟨ba, oa, rfl, a0⟩ := ((unhide HKV).below ((unhide HBX).trans ((unhide HBK).mono (unhide HBX).size))).cells q2 _ hx
              obtain ⟨bb, ob, rfl, e0⟩ := ((unhide HKV').below ((unhide HBX).trans ((unhide HBK).mono (unhide HBX).size))).cells q2 _ hy
              have HC : Hid (∀ W', Below w.heap.size w W' → Calls Try.prog 32 #[.pointer (some ⟨bR, 0, none⟩), .int .i64 x, .pointer (some ⟨bR', 0, none⟩), .int .i64 y] W' fun e w' => e = .returned (.bool (SS (osOf rs) (osOf rs') x y)) ∧ Below W'.heap.size W' w') := hide (fun W' hW' => by
                have := (unhide HIH) x y (by unfold belowO; exact List.mem_append_left _ (List.mem_of_getElem? hx)) W' hW'
                unfold SSI at this
                rw [(unhide HDOWN1) q2 x hx, (unhide HDOWN) q2 y hy] at this
                simpa using this)
              have HX := hide hx
              have HY := hide hy
              clear hx hy
              cases he : SS (osOf rs) (osOf rs') x y with
              | true =>
                rw [he] at HC
                have HE := hide he
                clear he
                set_option maxRecDepth 10000 in
                go_wp2_with fail
                go_region_with ((go_at_call 32; refine ((unhide HC) _ (by repeat (first | exact unhide HBWK | apply Below.drew))).mono ?_; rintro e w9 ⟨rfl, hb9⟩; have HB9 : Hid (Below WB.heap.size WB w9) := hide ((by repeat (first | exact unhide HBK | apply Below.drew) : Below WB.heap.size WB _).trans (hb9.mono (by have := (unhide HBK).size; simpa using this))); clear hb9))
                all_goals go_wp2
                all_goals
                  go_roundg (gk - 1)
                  case measure => omega
                  case rel =>
                    refine ⟨q2 + 1, by go_num, by omega, unhide HB9, fun t x' y' ht hx' hy' => ?_⟩
                    by_cases e : t = q2
                    · subst e; rw [unhide HX] at hx'; rw [unhide HY] at hy'; cases hx'; cases hy'; exact unhide HE
                    · exact (unhide HPK) t x' y' (by omega) hx' hy'
              | false =>
                rw [he] at HC
                have HE := hide he
                clear he
                set_option maxRecDepth 10000 in
                go_wp2_with fail
                go_region_with ((go_at_call 32; refine ((unhide HC) _ (by repeat (first | exact unhide HBWK | apply Below.drew))).mono ?_; rintro e w9 ⟨rfl, hb9⟩; have HB9 : Hid (Below WB.heap.size WB w9) := hide ((by repeat (first | exact unhide HBK | apply Below.drew) : Below WB.heap.size WB _).trans (hb9.mono (by have := (unhide HBK).size; simpa using this))); clear hb9))
                all_goals go_wp2
                all_goals
                  go_ret
                  refine ⟨?_, (unhide HBX).trans ((unhide HB9).mono (unhide HBX).size)⟩
                  rw [unhide HSS, allF_no (unhide HX) (unhide HY) (unhide HE)]
                  simp
            · have hqz2 : ¬ (q2 : Int) < (o.kids.length : Int) := by omega
              have HFIN : Hid (SS (osOf rs) (osOf rs') i j = true) := hide (by
                rw [unhide HSS, unhide HEQ, unhide HAT, allF_yes (unhide E6) (fun t x y hx hy => (unhide HPK) t x y (by have := (List.getElem?_eq_some_iff.1 hx).1; omega) hx hy), unhide HFI]
                simp)
              skip
              set_option maxRecDepth 10000 in
                go_wp2
                go_ret
                refine ⟨?_, (unhide HBX).trans ((unhide HBK).mono (unhide HBX).size)⟩
                rw [unhide HFIN]
                rfl
    · have j1 : (o.inner == -1) = true := by simp [i1]
      have j2 : (p.inner == -1) = false := by simpa using i2
      have HR := hide ((unhide HBAD) (.inr (.inr (.inr (.inr (.inr (.inr (.inr (fun h => i2 (h.1 i1))))))))))
      clear HBAD HSS i1 i2
      go_enter Try.func32, Try.ntmps32
      set_option maxRecDepth 10000 in
      go_wp2_with (go_at_call 79; first | (refine (unhide HI1).mono ?_; rintro e w' ⟨rfl, rfl⟩; clear HI1) | (refine (unhide HI2).mono ?_; rintro e w' ⟨rfl, rfl⟩))
      go_ret
      exact ⟨by rw [unhide HR]; rfl, ((Below.refl _ _).alloc (Nat.le_refl _) _).alloc (by simp) _⟩
  · by_cases i2 : p.inner = -1
    · have j1 : (o.inner == -1) = false := by simpa using i1
      have j2 : (p.inner == -1) = true := by simp [i2]
      have HR := hide ((unhide HBAD) (.inr (.inr (.inr (.inr (.inr (.inr (.inr (fun h => i1 (h.2 i2))))))))))
      clear HBAD HSS i1 i2
      go_enter Try.func32, Try.ntmps32
      set_option maxRecDepth 10000 in
      go_wp2_with (go_at_call 79; first | (refine (unhide HI1).mono ?_; rintro e w' ⟨rfl, rfl⟩; clear HI1) | (refine (unhide HI2).mono ?_; rintro e w' ⟨rfl, rfl⟩))
      go_ret
      exact ⟨by rw [unhide HR]; rfl, ((Below.refl _ _).alloc (Nat.le_refl _) _).alloc (by simp) _⟩
    · have j1 : (o.inner == -1) = false := by simpa using i1
      have j2 : (p.inner == -1) = false := by simpa using i2
      obtain ⟨ci, ci', hci, hci', hcb, hcl, hcl', hch, hch'⟩ := (unhide HIN) i1 i2
      have HFI : Hid (allF (SS (osOf rs) (osOf rs')) (innerL o) (innerL p) = SS (osOf rs) (osOf rs') ci ci') := hide (by rw [hcl, hcl']; simp [allF])
      have HCI : Hid (∀ W', Below w.heap.size w W' → Calls Try.prog 32 #[.pointer (some ⟨bR, 0, none⟩), .int .i64 o.inner, .pointer (some ⟨bR', 0, none⟩), .int .i64 p.inner] W' fun e w' => e = .returned (.bool (SS (osOf rs) (osOf rs') ci ci')) ∧ Below W'.heap.size W' w') := hide (fun W' hW' => by
        have := (unhide HIH) ci p.inner hcb W' hW'
        rw [hci, hci']
        rw [hci'] at this
        unfold SSI at this
        rw [hch, hch'] at this
        simpa using this)
      clear i1 i2 HIN hci hci' hcb hcl hcl' hch hch'
      have HEQ : Hid (eqD o p = attrsEq o.attrs p.attrs) := hide (eqD_rest (unhide E0) (unhide E1) (unhide E2) (unhide E3) (unhide E4))
      clear HBAD E0 E1 E2 E3 E4
      obtain ⟨WB, hWB⟩ : ∃ WB : World, WB = (W.alloc (.cells #[.int .i64 o.kind, .int .i64 o.space, .string o.name, .slice aa o.attrs.length ac, .string o.data, .string o.system, .int .i64 o.inner, .int .i64 o.host, .int .i64 o.up, .slice ka o.kids.length kc] 76)).alloc (.cells #[.int .i64 p.kind, .int .i64 p.space, .string p.name, .slice aa' p.attrs.length ac', .string p.data, .string p.system, .int .i64 p.inner, .int .i64 p.host, .int .i64 p.up, .slice ka' p.kids.length kc'] 76) := ⟨_, rfl⟩
      have HBX : Hid (Below W.heap.size W WB) := hide (by rw [hWB]; exact ((Below.refl _ _).alloc (Nat.le_refl _) _).alloc (by simp) _)
      have HCELL : Hid (∀ wx, Below WB.heap.size WB wx → wx.cell? ⟨W.heap.size, 3, none⟩ = some (.slice aa o.attrs.length ac) ∧ wx.cell? ⟨W.heap.size, 6, none⟩ = some (.int .i64 o.inner) ∧ wx.cell? ⟨W.heap.size, 9, none⟩ = some (.slice ka o.kids.length kc) ∧ wx.cell? ⟨W.heap.size + 1, 3, none⟩ = some (.slice aa' p.attrs.length ac') ∧ wx.cell? ⟨W.heap.size + 1, 6, none⟩ = some (.int .i64 p.inner) ∧ wx.cell? ⟨W.heap.size + 1, 9, none⟩ = some (.slice ka' p.kids.length kc')) := hide (fun wx hb => by
        subst hWB
        refine ⟨?_, ?_, ?_, ?_, ?_, ?_⟩
        all_goals (rw [hb.cell (by simp <;> omega)]; simp))
      have HWB := hide hWB
      clear hWB
      go_enter Try.func32, Try.ntmps32
      set_option maxRecDepth 10000 in
      go_wp2_with (go_at_call 79; first | (refine (unhide HI1).mono ?_; rintro e w' ⟨rfl, rfl⟩; clear HI1) | (refine (unhide HI2).mono ?_; rintro e w' ⟨rfl, rfl⟩))
      go_loopg [11] o.attrs.length (fun k s wx => ∃ q : Nat, s = .int .i64 q ∧ q + k = o.attrs.length ∧ Below WB.heap.size WB wx ∧ ∀ (t : Nat) x y, t < q → o.attrs[t]? = some x → p.attrs[t]? = some y → attrEq x y = true)
      case atStart => exact ⟨0, rfl, by omega, by rw [unhide HWB]; exact Below.refl _ _, fun t x y h => by omega⟩
      case round =>
        clear c0 c1 c2 c3 c4 c5 c6 c7 c8 c9 d0 d1 d2 d3 d4 d5 d6 d7 d8 d9 hA hA'
        obtain ⟨q, rfl, hqk, hb, hpre⟩ := hrel
        have HPA := hide hpre
        have HBA := hide hb
        obtain ⟨z3, z6, z9, y3, y6, y9⟩ := (unhide HCELL) wr hb
        clear hpre hb
        by_cases hq : q < o.attrs.length
        · have hqz : (q : Int) < (o.attrs.length : Int) := by omega
          obtain ⟨x, hx⟩ : ∃ x, o.attrs[q]? = some x := ⟨_, List.getElem?_eq_getElem hq⟩
          obtain ⟨y, hy⟩ : ∃ y, p.attrs[q]? = some y := ⟨_, List.getElem?_eq_getElem (by rw [← unhide E5]; exact hq)⟩
          have hqp : (q : Int) < (p.attrs.length : Int) := by rw [← unhide E5]; exact hqz
          obtain ⟨ba, oa, rfl, a0, a1, a2, a3⟩ := ((unhide HAV).below ((unhide HBX).trans ((unhide HBA).mono (unhide HBX).size))).cells q _ hx
          obtain ⟨bb, ob, rfl, e0, e1, e2, e3⟩ := ((unhide HAV').below ((unhide HBX).trans ((unhide HBA).mono (unhide HBX).size))).cells q _ hy
          have HX := hide hx
          have HY := hide hy
          have hg := guard29
          clear hx hy
          cases he : attrEq x y with
          | true =>
            have HE := hide he
            have hqq := fun W => neqAttr x y W
            rw [he] at hqq
            clear he
            set_option maxRecDepth 10000 in
            go_wp2
            set_option maxRecDepth 10000 in
            go_quiet (fail)
            set_option maxRecDepth 10000 in
            go_wp2
            go_roundg (gk - 1)
            case measure => omega
            case rel =>
              refine ⟨q + 1, by go_num, by omega, below_drewN' (unhide HBA) _, fun t x' y' ht hx' hy' => ?_⟩
              by_cases e : t = q
              · subst e; rw [unhide HX] at hx'; rw [unhide HY] at hy'; cases hx'; cases hy'; exact unhide HE
              · exact (unhide HPA) t x' y' (by omega) hx' hy'
          | false =>
            have HE := hide he
            have hqq := fun W => neqAttr x y W
            rw [he] at hqq
            clear he
            set_option maxRecDepth 10000 in
            go_wp2
            set_option maxRecDepth 10000 in
            go_quiet (fail)
            set_option maxRecDepth 10000 in
            go_wp2
            go_ret
            refine ⟨?_, (unhide HBX).trans ((below_drewN' (unhide HBA) _).mono (unhide HBX).size)⟩
            rw [unhide HSS, unhide HEQ, attrsEq_no (unhide HX) (unhide HY) (unhide HE)]
            rfl
        · have hqz : ¬ (q : Int) < (o.attrs.length : Int) := by omega
          have HAT : Hid (attrsEq o.attrs p.attrs = true) := hide (attrsEq_yes (unhide E5) (fun t x y hx hy => (unhide HPA) t x y (by have := (List.getElem?_eq_some_iff.1 hx).1; omega) hx hy))
          clear HPA hq hqk
          set_option maxRecDepth 10000 in
          go_wp2
          go_loopg [12] o.kids.length (fun k s wx => ∃ q : Nat, s = .int .i64 q ∧ q + k = o.kids.length ∧ Below WB.heap.size WB wx ∧ ∀ (t : Nat) x y, t < q → o.kids[t]? = some x → p.kids[t]? = some y → SS (osOf rs) (osOf rs') x y = true)
          case atStart => exact ⟨0, rfl, by omega, unhide HBA, fun t x y h => by omega⟩
          case round =>
            clear z3 z6 z9 y3 y6 y9 HBA
            obtain ⟨q2, rfl, hqk, hb, hpre⟩ := hrel
            have HPK := hide hpre
            have HBK := hide hb
            have HBWK := hide ((unhide HW).trans (((unhide HBX).trans (hb.mono (unhide HBX).size)).mono (unhide HW).size))
            obtain ⟨z3, z6, z9, y3, y6, y9⟩ := (unhide HCELL) wr hb
            clear hpre hb
            by_cases hq : q2 < o.kids.length
            · have hqz2 : (q2 : Int) < (o.kids.length : Int) := by omega
              obtain ⟨x, hx⟩ : ∃ x, o.kids[q2]? = some x := ⟨_, List.getElem?_eq_getElem hq⟩
              obtain ⟨y, hy⟩ : ∃ y, p.kids[q2]? = some y := ⟨_, List.getElem?_eq_getElem (by rw [← unhide E6]; exact hq)⟩
              have hqp : (q2 : Int) < (p.kids.length : Int) := by rw [← unhide E6]; exact hqz2
              obtain ⟨ba, oa, rfl, a0⟩ := ((unhide HKV).below ((unhide HBX).trans ((unhide HBK).mono (unhide HBX).size))).cells q2 _ hx
              obtain ⟨bb, ob, rfl, e0⟩ := ((unhide HKV').below ((unhide HBX).trans ((unhide HBK).mono (unhide HBX).size))).cells q2 _ hy
              have HC : Hid (∀ W', Below w.heap.size w W' → Calls Try.prog 32 #[.pointer (some ⟨bR, 0, none⟩), .int .i64 x, .pointer (some ⟨bR', 0, none⟩), .int .i64 y] W' fun e w' => e = .returned (.bool (SS (osOf rs) (osOf rs') x y)) ∧ Below W'.heap.size W' w') := hide (fun W' hW' => by
                have := (unhide HIH) x y (by unfold belowO; exact List.mem_append_left _ (List.mem_of_getElem? hx)) W' hW'
                unfold SSI at this
                rw [(unhide HDOWN1) q2 x hx, (unhide HDOWN) q2 y hy] at this
                simpa using this)
              have HX := hide hx
              have HY := hide hy
              clear hx hy
              cases he : SS (osOf rs) (osOf rs') x y with
              | true =>
                rw [he] at HC
                have HE := hide he
                clear he
                set_option maxRecDepth 10000 in
                go_wp2_with fail
                go_region_with ((go_at_call 32; refine ((unhide HC) _ (by repeat (first | exact unhide HBWK | apply Below.drew))).mono ?_; rintro e w9 ⟨rfl, hb9⟩; have HB9 : Hid (Below WB.heap.size WB w9) := hide ((by repeat (first | exact unhide HBK | apply Below.drew) : Below WB.heap.size WB _).trans (hb9.mono (by have := (unhide HBK).size; simpa using this))); clear hb9))
                all_goals go_wp2
                all_goals
                  go_roundg (gk - 1)
                  case measure => omega
                  case rel =>
                    refine ⟨q2 + 1, by go_num, by omega, unhide HB9, fun t x' y' ht hx' hy' => ?_⟩
                    by_cases e : t = q2
                    · subst e; rw [unhide HX] at hx'; rw [unhide HY] at hy'; cases hx'; cases hy'; exact unhide HE
                    · exact (unhide HPK) t x' y' (by omega) hx' hy'
              | false =>
                rw [he] at HC
                have HE := hide he
                clear he
                set_option maxRecDepth 10000 in
                go_wp2_with fail
                go_region_with ((go_at_call 32; refine ((unhide HC) _ (by repeat (first | exact unhide HBWK | apply Below.drew))).mono ?_; rintro e w9 ⟨rfl, hb9⟩; have HB9 : Hid (Below WB.heap.size WB w9) := hide ((by repeat (first | exact unhide HBK | apply Below.drew) : Below WB.heap.size WB _).trans (hb9.mono (by have := (unhide HBK).size; simpa using this))); clear hb9))
                all_goals go_wp2
                all_goals
                  go_ret
                  refine ⟨?_, (unhide HBX).trans ((unhide HB9).mono (unhide HBX).size)⟩
                  rw [unhide HSS, allF_no (unhide HX) (unhide HY) (unhide HE)]
                  simp
            · have hqz2 : ¬ (q2 : Int) < (o.kids.length : Int) := by omega
              have HFIN : Hid (SS (osOf rs) (osOf rs') i j = SS (osOf rs) (osOf rs') ci ci') := hide (by
                rw [unhide HSS, unhide HEQ, unhide HAT, allF_yes (unhide E6) (fun t x y hx hy => (unhide HPK) t x y (by have := (List.getElem?_eq_some_iff.1 hx).1; omega) hx hy), unhide HFI]
                simp)
              skip
              set_option maxRecDepth 10000 in
                go_wp2_with (go_at_call 32; refine ((unhide HCI) _ (unhide HBWK)).mono ?_; rintro e w9 ⟨rfl, hb9⟩; have HB9 := hide hb9; clear hb9)
                go_ret
                refine ⟨?_, (unhide HBX).trans (((unhide HBK).trans ((unhide HB9).mono (unhide HBK).size)).mono (unhide HBX).size)⟩
                rw [unhide HFIN]
                simp

set_option maxHeartbeats 2000000 in
theorem refSame_no {w : World} {b1 b2 bR bR' g g' cap cap' : Nat} {rs rs' : List OneR} (h1 : Rf w b1 bR g cap rs) (h2 : Rf w b2 bR' g' cap' rs') (x y : Int) (hno : (hasO (osOf rs) x && hasO (osOf rs') y) = false) (W : World) (hW : Below w.heap.size w W) :
    Calls Try.prog 32 #[.pointer (some ⟨bR, 0, none⟩), .int .i64 x, .pointer (some ⟨bR', 0, none⟩), .int .i64 y] W fun e w' => e = .returned (.bool false) ∧ Below W.heap.size W w' := by
  have hI1 := refIs_any (h1.below hW) x
  have hI2 := refIs_any (h2.below hW) y
  have HB0 := hide (Below.refl W.heap.size W)
  clear h1 h2 hW
  cases hx : hasO (osOf rs) x with
  | false =>
    rw [hx] at hI1
    have HI1 := hide hI1
    clear hI1 hI2 hno hx
    go_enter Try.func32, Try.ntmps32
    set_option maxRecDepth 10000 in
    go_wp2_with (go_at_call 79; refine (unhide HI1).mono ?_; rintro e w' ⟨rfl, rfl⟩)
    go_ret
    exact ⟨rfl, unhide HB0⟩
  | true =>
    rw [hx, Bool.true_and] at hno
    rw [hx] at hI1
    rw [hno] at hI2
    have HI1 := hide hI1
    have HI2 := hide hI2
    clear hI1 hI2 hno hx
    go_enter Try.func32, Try.ntmps32
    set_option maxRecDepth 10000 in
    go_wp2_with (go_at_call 79; first | (refine (unhide HI1).mono ?_; rintro e w' ⟨rfl, rfl⟩; clear HI1) | (refine (unhide HI2).mono ?_; rintro e w' ⟨rfl, rfl⟩))
    go_ret
    exact ⟨rfl, unhide HB0⟩

theorem refSame_deep {w : World} {b1 b2 bR bR' g g' cap cap' : Nat} {rs rs' : List OneR} {ns ns' : List NodeM} (h1 : Rf w b1 bR g cap rs) (h2 : Rf w b2 bR' g' cap' rs') (sA : Sim ns (osOf rs)) (sB : Sim ns' (osOf rs')) :
    ∀ (d : Nat) (x y : Int), (∀ (i : Nat) px, x = i → PathOf (upO (osOf rs)) i px → (osOf rs).length + 1 ≤ d + px.length) → ∀ W, Below w.heap.size w W →
      Calls Try.prog 32 #[.pointer (some ⟨bR, 0, none⟩), .int .i64 x, .pointer (some ⟨bR', 0, none⟩), .int .i64 y] W fun e w' => e = .returned (.bool (SSI (osOf rs) (osOf rs') x y)) ∧ Below W.heap.size W w' := by
  intro d
  induction d with
  | zero =>
    intro x y hd W hW
    cases hno : (hasO (osOf rs) x && hasO (osOf rs') y) with
    | false =>
      have e : SSI (osOf rs) (osOf rs') x y = false := by unfold SSI; rw [hno]; rfl
      rw [e]; exact refSame_no h1 h2 x y hno W hW
    | true =>
      rw [Bool.and_eq_true] at hno
      obtain ⟨i, o, rfl, ho⟩ := hasO_yes hno.1
      obtain ⟨px, hpx⟩ := sA.ends i (List.getElem?_eq_some_iff.1 ho).1
      have := hd i px rfl hpx
      have := path_short hpx
      omega
  | succ d ih =>
    intro x y hd W hW
    cases hno : (hasO (osOf rs) x && hasO (osOf rs') y) with
    | false =>
      have e : SSI (osOf rs) (osOf rs') x y = false := by unfold SSI; rw [hno]; rfl
      rw [e]; exact refSame_no h1 h2 x y hno W hW
    | true =>
      have e : SSI (osOf rs) (osOf rs') x y = SS (osOf rs) (osOf rs') x.toNat y.toNat := by unfold SSI; rw [hno]; simp
      rw [e]
      rw [Bool.and_eq_true] at hno
      obtain ⟨i, o, rfl, ho⟩ := hasO_yes hno.1
      obtain ⟨j, p, rfl, hp⟩ := hasO_yes hno.2
      obtain ⟨r, hr, rfl⟩ := osOf_bk ho
      obtain ⟨r', hr', rfl⟩ := osOf_bk hp
      rw [Int.toNat_natCast, Int.toNat_natCast]
      refine refSame_in h1 h2 sA sB hr hr' (fun c c' hc W' hW' => ih c c' (fun k pk hk hpk => ?_) W' hW') W hW
      obtain rfl : c = k := by omega
      obtain ⟨px, hpx⟩ := sA.ends i (List.getElem?_eq_some_iff.1 ho).1
      have := hd i px rfl hpx
      have e2 := path_one hpk (sA.path_below ho hc hpx)
      rw [e2, List.length_cons]
      omega

theorem refSame_any {w : World} {b1 b2 bR bR' : Nat} {os os' : List OneM} {ns ns' : List NodeM} {G G' : Nat → Prop} (h1 : RfS w b1 bR os G) (h2 : RfS w b2 bR' os' G') (sA : Sim ns os) (sB : Sim ns' os') (x y : Int) (W : World) (hW : Below w.heap.size w W) :
    Calls Try.prog 32 #[.pointer (some ⟨bR, 0, none⟩), .int .i64 x, .pointer (some ⟨bR', 0, none⟩), .int .i64 y] W fun e w' => e = .returned (.bool (SSI os os' x y)) ∧ Below W.heap.size W w' := by
  obtain ⟨g, cap, rs, h1, rfl, _⟩ := h1
  obtain ⟨g', cap', rs', h2, rfl, _⟩ := h2
  exact refSame_deep h1 h2 sA sB ((osOf rs).length + 1) x y (fun i px _ _ => by omega) W hW
end Go.Proofs.Ytlbkoafeedlfaaa

namespace Go.Proofs.Ytlbkoafeedlfaaa
open Go.RowKit

/-- A call of a script of the third law. -/
structure Op3 where
  what : Int
  a : Int
  b : Int
  c : Int
  n : Int
  text : ByteArray
  la : Option Addr
  cap : Nat
  l : List AttrM
def Op3.cells (o : Op3) : Array Value := #[.int .i64 o.what, .int .i64 o.a, .int .i64 o.b, .int .i64 o.c, .int .i64 o.n, .string o.text, .slice o.la o.l.length o.cap]
structure Script3 (w : World) (a : Option Addr) (l : List Op3) : Prop where
  cells : ∀ (i : Nat) o, l[i]? = some o → ∃ b off, a = some ⟨b, off, none⟩ ∧ w.cell? ⟨b, off + i * 7, none⟩ = some (.int .i64 o.what) ∧ w.cell? ⟨b, off + i * 7 + 1, none⟩ = some (.int .i64 o.a) ∧ w.cell? ⟨b, off + i * 7 + 2, none⟩ = some (.int .i64 o.b) ∧ w.cell? ⟨b, off + i * 7 + 3, none⟩ = some (.int .i64 o.c) ∧ w.cell? ⟨b, off + i * 7 + 4, none⟩ = some (.int .i64 o.n) ∧ w.cell? ⟨b, off + i * 7 + 5, none⟩ = some (.string o.text) ∧ w.cell? ⟨b, off + i * 7 + 6, none⟩ = some (.slice o.la o.l.length o.cap)
  attrs : ∀ (i : Nat) o, l[i]? = some o → AttrsIn w o.la o.l ∧ o.l.length * 56 ≤ 140737488351232
theorem Script3.below {w w1 : World} {a : Option Addr} {l : List Op3} (h : Script3 w a l) (hb : Below w.heap.size w w1) : Script3 w1 a l := by
  refine ⟨fun i o hi => ?_, fun i o hi => ⟨((h.attrs i o hi).1).below hb, (h.attrs i o hi).2⟩⟩
  obtain ⟨b, off, e, c0, c1, c2, c3, c4, c5, c6⟩ := h.cells i o hi
  have hlt : b < w.heap.size := World.block_lt_of_cell? w _ c0
  exact ⟨b, off, e, (hb.cell (p := ⟨b, off + i * 7, none⟩) hlt).trans c0, (hb.cell (p := ⟨b, off + i * 7 + 1, none⟩) hlt).trans c1, (hb.cell (p := ⟨b, off + i * 7 + 2, none⟩) hlt).trans c2, (hb.cell (p := ⟨b, off + i * 7 + 3, none⟩) hlt).trans c3, (hb.cell (p := ⟨b, off + i * 7 + 4, none⟩) hlt).trans c4, (hb.cell (p := ⟨b, off + i * 7 + 5, none⟩) hlt).trans c5, (hb.cell (p := ⟨b, off + i * 7 + 6, none⟩) hlt).trans c6⟩

/-- The box of a call's argument holds o. -/
structure At3 (o : Op3) (k : Nat) (w : World) : Prop where
  a : w.cell? ⟨k, 1, none⟩ = some (.int .i64 o.a)
  b : w.cell? ⟨k, 2, none⟩ = some (.int .i64 o.b)
  c : w.cell? ⟨k, 3, none⟩ = some (.int .i64 o.c)
  n : w.cell? ⟨k, 4, none⟩ = some (.int .i64 o.n)
  t : w.cell? ⟨k, 5, none⟩ = some (.string o.text)
  l : w.cell? ⟨k, 6, none⟩ = some (.slice o.la o.l.length o.cap)
theorem at3_box (w : World) (o : Op3) (v0 : Value) : At3 o w.heap.size (w.alloc (.cells #[v0, .int .i64 o.a, .int .i64 o.b, .int .i64 o.c, .int .i64 o.n, .string o.text, .slice o.la o.l.length o.cap] 104)) := by
  refine ⟨?_, ?_, ?_, ?_, ?_, ?_⟩
  all_goals simp
theorem At3.of {o : Op3} {k : Nat} {w w1 : World} (h : At3 o k w) (he : ∀ j, w1.cell? ⟨k, j, none⟩ = w.cell? ⟨k, j, none⟩) : At3 o k w1 :=
  ⟨by rw [he]; exact h.a, by rw [he]; exact h.b, by rw [he]; exact h.c, by rw [he]; exact h.n, by rw [he]; exact h.t, by rw [he]; exact h.l⟩

section
variable {w0 w W w1 w2 : World} {bA bR : Nat} {os osR os1 : List OneM} {ns : List NodeM} {F G : Nat → Prop}
theorem Pair.prog3 (h : Pair w0 w bA bR os osR ns F G) (o : Op3) (hB : Below w.heap.size w W) (hlt : w.heap.size < W.heap.size) (hw : At3 o w.heap.size W) (hu : USim F W w1 w0.heap.size bA os1) :
    At3 o w.heap.size w1 ∧ ∃ ns1 F1, Pair w0 w1 bA bR os1 osR ns1 F1 G := by
  obtain ⟨ns1, F1, hp1, hc⟩ := h.prog hB hu
  exact ⟨hw.of fun j => hc _ j (Nat.le_refl _) hlt, ns1, F1, hp1⟩
end

set_option maxHeartbeats 8000000 in
theorem build_any {w : World} (a : Option Addr) (cap : Nat) (l : List Op3) (hs : Script3 w a l) (hn : l.length ≤ maxLen) :
    Calls Try.prog 27 #[.slice a l.length cap] w fun e w' => ∃ bR os, e = .returned (.tuple #[.pointer (some ⟨w.heap.size + 3, 0, none⟩), .pointer (some ⟨bR, 0, none⟩)]) ∧ Both w w' (w.heap.size + 3) bR os := by
  have HN := hide (new_any w w.heap.size (Nat.le_refl _))
  have HS := hide hs
  have hlz : (l.length : Int) ≤ 9223372036854775807 := by unfold maxLen at hn; omega
  clear hs hn
  go_enter Try.func27, Try.ntmps27
  set_option maxRecDepth 10000 in
  go_wp2_with (first
    | (go_at_call 13; refine (unhide HN).mono ?_; rintro e w1 ⟨F, rfl, h1, hb1, hF⟩; have HNR := hide (refNew_any w1 w.heap.size hb1.size); have H1 := hide h1; have HB1 := hide hb1; have HF := hide hF; clear h1 hb1 hF)
    | (go_at_call 14; refine (unhide HNR).mono ?_; rintro e w2 ⟨bR, g, cp, rfl, h2, hb2, hR, hg⟩; have HBo := hide (both_new (unhide H1) (unhide HB1) (unhide HF) h2 hb2 hR hg); clear h2 hb2 hR hg))
  go_loopg [6, 7] 300 (fun k s6 _ wx => ∃ (j : Nat) (os : List OneM), s6 = .int .i64 j ∧ j + k = 300 ∧ Both w wx (w.heap.size + 3) bR os)
  case atStart => exact ⟨0, _, rfl, by omega, unhide HBo⟩
  case round =>
    obtain ⟨j, os, rfl, hjk, hB⟩ := hrel
    have HBW := hide (show Below w.heap.size w wr by obtain ⟨ns, F0, G0, hp⟩ := hB; exact hp.below)
    by_cases hj : j < l.length
    · by_cases h300 : j < 300
      · have hjz : (j : Int) < (l.length : Int) := by omega
        have h3z : (j : Int) < 300 := by omega
        have hx : l[j]? = some l[j] := List.getElem?_eq_getElem hj
        generalize l[j] = o at hx
        obtain ⟨ha, hr⟩ := (unhide HS).attrs j o hx
        obtain ⟨b, off, rfl, d0, d1, d2, d3, d4, d5, d6⟩ := ((unhide HS).below (unhide HBW)).cells j o hx
        obtain ⟨ns, F, G, hp⟩ := hB
        have hW : ∀ ob, Below wr.heap.size wr (wr.alloc ob) := fun ob => ((Below.refl _ wr).alloc (Nat.le_refl _) ob)
        have HP := hide hp
        have HSIM := hide hp.sim
        have HW := hide hW
        have HAT := hide ha
        have HNL : Hid (o.l.length ≤ maxLen) := hide (by unfold maxLen; omega)
        have HFIN : Hid (∀ wz os', Both w wz (w.heap.size + 3) bR os' → ∃ (j_1 : Nat) (os : List OneM), Value.int .i64 ((j : Int) + 1) = .int .i64 j_1 ∧ j_1 + (gk - 1) = 300 ∧ Both w wz (w.heap.size + 3) bR os) := hide (fun wz os' h => ⟨j + 1, os', by simp, by omega, h⟩)
        clear ha hr hx hW
        by_cases h0 : o.what = 0
        · rw [h0] at d0
          clear h0
          have HB := hide (at3_box wr o (.int .i64 0))
          have H1 := hide (fun ob => element_sim (hp.more ((unhide HW) ob)).ar hp.sim o.n o.text o.la o.cap o.l (((unhide HAT).below hp.below).below ((unhide HW) ob)) (unhide HNL))
          clear hp
          set_option maxRecDepth 10000 in
          go_wp2_with (first
            | (go_at_call 34; refine ((unhide H1) _).mono ?_; rintro e w1 ⟨rfl, hu⟩; obtain ⟨Y1, ns1, F1, hp1⟩ := (unhide HP).prog3 o ((unhide HW) _) (by simp) (unhide HB) hu; have t1 := Y1.n; have t2 := Y1.t; have t3 := Y1.l; have H2 := hide (refElement_sim hp1.rf o.n o.text o.la o.cap o.l ((unhide HAT).below hp1.below) (unhide HNL)); have HP1 := hide hp1; clear hu hp1 Y1)
            | (go_at_call 65; refine (unhide H2).mono ?_; rintro e w2 ⟨rfl, hu2⟩; have HB2 := hide ((unhide HP1).ref hu2).1; clear hu2))
          go_roundg (gk - 1)
          case measure => omega
          case rel => exact (unhide HFIN) _ _ (unhide HB2)
        by_cases h1 : o.what = 1
        · rw [h1] at d0
          clear h1
          have HB := hide (at3_box wr o (.int .i64 1))
          have H1 := hide (fun ob => text_sim (hp.more ((unhide HW) ob)).ar hp.sim o.text)
          clear hp
          set_option maxRecDepth 10000 in
          go_wp2_with (first
            | (go_at_call 64; refine ((unhide H1) _).mono ?_; rintro e w1 ⟨rfl, hu⟩; obtain ⟨Y1, ns1, F1, hp1⟩ := (unhide HP).prog3 o ((unhide HW) _) (by simp) (unhide HB) hu; have t2 := Y1.t; have H2 := hide (refText_sim hp1.rf o.text); have HP1 := hide hp1; clear hu hp1 Y1)
            | (go_at_call 66; refine (unhide H2).mono ?_; rintro e w2 ⟨rfl, hu2⟩; have HB2 := hide ((unhide HP1).ref hu2).1; clear hu2))
          go_roundg (gk - 1)
          case measure => omega
          case rel => exact (unhide HFIN) _ _ (unhide HB2)
        by_cases h2 : o.what = 2
        · rw [h2] at d0
          clear h2
          have HB := hide (at3_box wr o (.int .i64 2))
          have H1 := hide (fun ob => comment_sim (hp.more ((unhide HW) ob)).ar hp.sim o.text)
          clear hp
          set_option maxRecDepth 10000 in
          go_wp2_with (first
            | (go_at_call 67; refine ((unhide H1) _).mono ?_; rintro e w1 ⟨rfl, hu⟩; obtain ⟨Y1, ns1, F1, hp1⟩ := (unhide HP).prog3 o ((unhide HW) _) (by simp) (unhide HB) hu; have t2 := Y1.t; have H2 := hide (refComment_sim hp1.rf o.text); have HP1 := hide hp1; clear hu hp1 Y1)
            | (go_at_call 68; refine (unhide H2).mono ?_; rintro e w2 ⟨rfl, hu2⟩; have HB2 := hide ((unhide HP1).ref hu2).1; clear hu2))
          go_roundg (gk - 1)
          case measure => omega
          case rel => exact (unhide HFIN) _ _ (unhide HB2)
        by_cases h3 : o.what = 3
        · rw [h3] at d0
          clear h3
          have HB := hide (at3_box wr o (.int .i64 3))
          have H1 := hide (fun ob => doctype_sim (hp.more ((unhide HW) ob)).ar hp.sim o.text ⟨#[]⟩ o.text)
          clear hp
          set_option maxRecDepth 10000 in
          go_wp2_with (first
            | (go_at_call 69; refine ((unhide H1) _).mono ?_; rintro e w1 ⟨rfl, hu⟩; obtain ⟨Y1, ns1, F1, hp1⟩ := (unhide HP).prog3 o ((unhide HW) _) (by simp) (unhide HB) hu; have t2 := Y1.t; have H2 := hide (refDoctype_sim hp1.rf o.text ⟨#[]⟩ o.text); have HP1 := hide hp1; clear hu hp1 Y1)
            | (go_at_call 70; refine (unhide H2).mono ?_; rintro e w2 ⟨rfl, hu2⟩; have HB2 := hide ((unhide HP1).ref hu2).1; clear hu2))
          go_roundg (gk - 1)
          case measure => omega
          case rel => exact (unhide HFIN) _ _ (unhide HB2)
        by_cases h4 : o.what = 4
        · rw [h4] at d0
          clear h4
          have HB := hide (at3_box wr o (.int .i64 4))
          have H1 := hide (fun ob => fragment_sim (hp.more ((unhide HW) ob)).ar hp.sim)
          clear hp
          set_option maxRecDepth 10000 in
          go_wp2_with (first
            | (go_at_call 71; refine ((unhide H1) _).mono ?_; rintro e w1 ⟨rfl, hu⟩; obtain ⟨Y1, ns1, F1, hp1⟩ := (unhide HP).prog3 o ((unhide HW) _) (by simp) (unhide HB) hu; have t2 := Y1.t; have H2 := hide (refFragment_sim hp1.rf); have HP1 := hide hp1; clear hu hp1 Y1)
            | (go_at_call 72; refine (unhide H2).mono ?_; rintro e w2 ⟨rfl, hu2⟩; have HB2 := hide ((unhide HP1).ref hu2).1; clear hu2))
          go_roundg (gk - 1)
          case measure => omega
          case rel => exact (unhide HFIN) _ _ (unhide HB2)
        by_cases h5 : o.what = 5
        · rw [h5] at d0
          clear h5
          have HB := hide (at3_box wr o (.int .i64 5))
          have H1 := hide (fun ob => link_sim (hp.more ((unhide HW) ob)).ar hp.sim o.a o.b o.c)
          clear hp
          set_option maxRecDepth 10000 in
          go_wp2_with (first
            | (go_at_call 35; refine ((unhide H1) _).mono ?_; rintro e w1 ⟨rfl, hu⟩; obtain ⟨Y1, ns1, F1, hp1⟩ := (unhide HP).prog3 o ((unhide HW) _) (by simp) (unhide HB) hu; have t1 := Y1.a; have t2 := Y1.b; have t3 := Y1.c; have H2 := hide (refLink_sim hp1.rf (unhide HSIM) o.a o.b o.c); have HP1 := hide hp1; clear hu hp1 Y1)
            | (go_at_call 38; refine (unhide H2).mono ?_; rintro e w2 ⟨rfl, hu2⟩; have HB2 := hide ((unhide HP1).ref hu2).1; clear hu2))
          go_roundg (gk - 1)
          case measure => omega
          case rel => exact (unhide HFIN) _ _ (unhide HB2)
        have b0 : (o.what == 0) = false := by simpa using h0
        have b1 : (o.what == 1) = false := by simpa using h1
        have b2 : (o.what == 2) = false := by simpa using h2
        have b3 : (o.what == 3) = false := by simpa using h3
        have b4 : (o.what == 4) = false := by simpa using h4
        have b5 : (o.what == 5) = false := by simpa using h5
        clear h0 h1 h2 h3 h4 h5
        have HB := hide (at3_box wr o (.int .i64 o.what))
        have H1 := hide (fun ob => unlink_sim (hp.more ((unhide HW) ob)).ar hp.sim o.a)
        clear hp
        set_option maxRecDepth 10000 in
        go_wp2_with (first
          | (go_at_call 39; refine ((unhide H1) _).mono ?_; rintro e w1 ⟨rfl, hu⟩; obtain ⟨Y1, ns1, F1, hp1⟩ := (unhide HP).prog3 o ((unhide HW) _) (by simp) (unhide HB) hu; have t1 := Y1.a; have H2 := hide (refUnlink_sim hp1.rf (unhide HSIM) o.a); have HP1 := hide hp1; clear hu hp1 Y1)
          | (go_at_call 40; refine (unhide H2).mono ?_; rintro e w2 ⟨rfl, hu2⟩; have HB2 := hide ((unhide HP1).ref hu2).1; clear hu2))
        go_roundg (gk - 1)
        case measure => omega
        case rel => exact (unhide HFIN) _ _ (unhide HB2)
      · have hjz : (j : Int) < (l.length : Int) := by omega
        have h3z : ¬ (j : Int) < 300 := by omega
        have HB := hide hB
        clear hB
        set_option maxRecDepth 10000 in
        go_wp2
        go_ret2
        exact ⟨bR, rfl, os, unhide HB⟩
    · have hjz : ¬ (j : Int) < (l.length : Int) := by omega
      have HB := hide hB
      clear hB
      set_option maxRecDepth 10000 in
      go_wp2
      go_ret2
      exact ⟨bR, rfl, os, unhide HB⟩

theorem list7 {α : Type} (l : List α) (h : l.length = 7) : ∃ a b c d e f g, l = [a, b, c, d, e, f, g] := by
  match l, h with
  | [a, b, c, d, e, f, g], _ => exact ⟨a, b, c, d, e, f, g, rfl⟩
section
variable {H : Type} {enc : TypeId × Value → H} {W : World} {spare : Nat → Bool} {held : Bool}
theorem op3_cells {fuel : Nat} {cs : List Value} {x : DataW H × List MemPlace} (h : DataW.trod enc Try.prog W 0 spare held fuel 104 cs = some x) :
    ∃ o : Op3, cs = o.cells.toList ∧ AttrsIn W o.la o.l ∧ ((x.1.weights Try.prog 104).all (· ≤ reachBytes) = true → o.l.length * 56 ≤ 140737488351232) := by
  have hc104 : Try.prog.cellsOf 104 = 7 := by kernel_rfl
  have hc30 : Try.prog.cellsOf 30 = 1 := by kernel_rfl
  have hc3 : Try.prog.cellsOf 3 = 1 := by kernel_rfl
  have hc9 : Try.prog.cellsOf 9 = 1 := by kernel_rfl
  obtain ⟨xs, k, _, rfl, hl4, hxl, hfs⟩ := DataW.trod_struct Try.underlying104 h
  rw [hc104] at hl4
  obtain ⟨e0, e1, e2, e3, e4, e5, e6, rfl⟩ := list7 cs hl4
  have hx : xs.length = 7 := by simpa using hxl
  obtain ⟨y0, y1, y2, y3, y4, y5, y6, rfl⟩ := list7 xs hx
  have f0 := hfs 0 _ rfl
  have f1 := hfs 1 _ rfl
  have f2 := hfs 2 _ rfl
  have f3 := hfs 3 _ rfl
  have f4 := hfs 4 _ rfl
  have f5 := hfs 5 _ rfl
  have f6 := hfs 6 _ rfl
  simp [hc3, hc9, hc30] at f0 f1 f2 f3 f4 f5 f6
  obtain ⟨z0, g0, _, _⟩ := DataW.trod_int Try.underlying3 f0
  obtain ⟨z1, g1, _, _⟩ := DataW.trod_int Try.underlying3 f1
  obtain ⟨z2, g2, _, _⟩ := DataW.trod_int Try.underlying3 f2
  obtain ⟨z3, g3, _, _⟩ := DataW.trod_int Try.underlying3 f3
  obtain ⟨z4, g4, _, _⟩ := DataW.trod_int Try.underlying3 f4
  obtain ⟨z5, g5, _, _⟩ := DataW.trod_string Try.underlying9 f5
  obtain ⟨la, cap, l, g6, hin, hw⟩ := attrs_cells f6
  simp at g0 g1 g2 g3 g4 g5 g6
  subst g0 g1 g2 g3 g4 g5 g6
  refine ⟨⟨z0, z1, z2, z3, z4, z5, la, cap, l⟩, rfl, hin, fun hall => hw (List.all_eq_true.2 fun n hn => List.all_eq_true.1 hall n ?_)⟩
  simp only [DataW.weights, Try.underlying104]
  exact DataW.weights_mem_each (j := 6) (t := 30) (d := y6.1) rfl rfl n hn

/-- A script that came in. -/
theorem script3_open {a : Option Addr} {len cap : Nat} {d : DataW H} {ps : List MemPlace}
    (h : DataW.Trod enc Try.prog W 0 spare held 52 (.slice a len cap) d ps) (hsz : (d.weights Try.prog 52).all (· ≤ reachBytes) = true) : ∃ l : List Op3, l.length = len ∧ Script3 W a l ∧ len ≤ maxLen := by
  obtain ⟨fuel, hf⟩ := h
  rcases Go.Deep.open_slice Try.underlying52 hf with ⟨hcs, _⟩ | ⟨x, l, c, m, n, D, Pl, hcs, _, hlc, hcm, hm, hx, hel⟩
  · simp [Value.cells] at hcs
    obtain ⟨rfl, rfl, rfl⟩ := hcs
    exact ⟨[], rfl, ⟨fun i x hi => by simp at hi, fun i x hi => by simp at hi⟩, by simp⟩
  · simp [Value.cells] at hcs
    obtain ⟨rfl, rfl, rfl⟩ := hcs
    simp only [Prod.mk.injEq] at hx
    obtain ⟨rfl, _⟩ := hx
    have hc7 : Try.prog.cellsOf 104 = 7 := by kernel_rfl
    have hlm : len ≤ m := by rw [hm]; split <;> omega
    have one : ∀ i, i < len → ∃ o : Op3, (∃ b off, x = ⟨b, off, none⟩ ∧ ∀ j v, o.cells.toList[j]? = some v → W.cell? ⟨b, off + i * 7 + j, none⟩ = some v) ∧ AttrsIn W o.la o.l ∧ o.l.length * 56 ≤ 140737488351232 := by
      intro i hi
      obtain ⟨cs', hcs', htr⟩ := hel i (by omega)
      rw [hc7] at hcs'
      obtain ⟨o, rfl, hin, hw⟩ := op3_cells htr
      refine ⟨o, ?_, hin, hw (List.all_eq_true.2 fun n hn => List.all_eq_true.1 hsz n ?_)⟩
      · obtain ⟨i0, hi0⟩ : ∃ i0 : Nat, i0 = 0 := ⟨0, rfl⟩
        obtain ⟨cs0, hcs0, htr0⟩ := hel i0 (by omega)
        rw [hc7] at hcs0
        obtain ⟨o', rfl, _, _⟩ := op3_cells htr0
        have p0 := cells_get hcs0 0 _ rfl
        rw [Go.Deep.add_add, show i0 * 7 + 0 = 0 by omega] at p0
        obtain ⟨b, off, rfl⟩ := addr_plain p0
        have ad : ∀ k, (⟨b, off, none⟩ : Addr).add k = ⟨b, off + k, none⟩ := fun k => by unfold Addr.add; split <;> simp_all
        refine ⟨b, off, rfl, fun j v hj => ?_⟩
        have := cells_get hcs' j v hj
        rw [Go.Deep.add_add, ad] at this
        rw [Nat.add_assoc]
        exact this
      · simp only [DataW.weights, Try.underlying52, List.mem_cons, List.mem_append]
        exact .inr (.inl (weightsAll_mem (List.mem_map.2 ⟨i, List.mem_range.2 hi, rfl⟩) n hn))
    obtain ⟨f, hf'⟩ : ∃ f : Nat → Op3, ∀ i, i < len → (∃ b off, x = ⟨b, off, none⟩ ∧ ∀ j v, (f i).cells.toList[j]? = some v → W.cell? ⟨b, off + i * 7 + j, none⟩ = some v) ∧ AttrsIn W (f i).la (f i).l ∧ (f i).l.length * 56 ≤ 140737488351232 := by
      have : Inhabited Op3 := ⟨⟨0, 0, 0, 0, 0, ⟨#[]⟩, none, 0, []⟩⟩
      exact Go.Deep.choose_lt one
    have get : ∀ (i : Nat) y, ((List.range len).map f)[i]? = some y → i < len ∧ f i = y := by
      intro i y hi
      have hlt : i < len := by have := (List.getElem?_eq_some_iff.1 hi).1; simpa using this
      exact ⟨hlt, by simpa [hlt] using hi⟩
    refine ⟨(List.range len).map f, by simp, ⟨fun i y hi => ?_, fun i y hi => ?_⟩, by omega⟩
    · obtain ⟨hlt, rfl⟩ := get i y hi
      obtain ⟨⟨b, off, rfl, hc⟩, _, _⟩ := hf' i hlt
      exact ⟨b, off, rfl, hc 0 _ rfl, hc 1 _ rfl, hc 2 _ rfl, hc 3 _ rfl, hc 4 _ rfl, hc 5 _ rfl, hc 6 _ rfl⟩
    · obtain ⟨hlt, rfl⟩ := get i y hi
      exact (hf' i hlt).2
end
end Go.Proofs.Ytlbkoafeedlfaaa

namespace Go.Proofs.Ytlbkoafeedlfaaa
open Go.RowKit

def osX : List OneM := (dataO [oneM 0] 2 ⟨#[120]⟩).1
theorem osX_id : (dataO [oneM 0] 2 ⟨#[120]⟩).2.1 = 1 := by decide +kernel
theorem osX_er : (dataO [oneM 0] 2 ⟨#[120]⟩).2.2 = 0 := by decide +kernel
theorem osX_0 : ∃ o, osX[0]? = some o ∧ o.kids = [] := ⟨oneM 0, by rfl, rfl⟩
theorem osX_same : SSI osX osX 1 1 = true := by decide +kernel

set_option maxHeartbeats 1000000 in
theorem awake3_any (w : World) : Calls Try.prog 30 #[] w fun e w' => e = .returned (.bool true) ∧ Below w.heap.size w w' := by
  have HN := hide (new_any w w.heap.size (Nat.le_refl _))
  go_enter Try.func30, Try.ntmps30
  set_option maxRecDepth 10000 in
  go_wp2_with (first
    | (go_at_call 13; refine (unhide HN).mono ?_; rintro e w1 ⟨F, rfl, h1, hb1, hF⟩; have HT := hide (text_sim h1 Sim.new ⟨#[120]⟩); rw [osX_id, osX_er] at HT; have HB1 := hide hb1; have HF := hide hF; clear h1 hb1 hF)
    | (go_at_call 64; refine (unhide HT).mono ?_; rintro e w2 ⟨rfl, ms, ⟨F2, h2, hm2, hF2⟩, hs2⟩; have HB2 := hide ((unhide HB1).trans (hm2.below (unhide HB1).size (unhide HF))); have H2 := hide h2; have HS2 := hide hs2; have HSH : Hid (Calls Try.prog 28 #[.pointer (some ⟨w.heap.size + 3, 0, none⟩), .int .i64 0] w2 fun e w' => e = .returned (.tuple #[.string ⟨#[]⟩, .int .i64 0]) ∧ Below w2.heap.size w2 w') := hide (by
        obtain ⟨o, ho, hk⟩ := osX_0
        obtain ⟨n, hn, _⟩ := hs2.get ho
        have hp := (hs2.kids 0 o ho).path hn
        rw [hk] at hp
        exact show0 h2 (i := 0) hn hp); clear h2 hm2 hF2 hs2)
    | (go_at_call 28; refine (unhide HSH).mono ?_; rintro e w3 ⟨rfl, hb3⟩; have HSA := hide (sameS_any ((unhide H2).below hb3) ((unhide H2).below hb3) (unhide HS2) (unhide HS2) 1 1); rw [show SSI (dataO [oneM 0] 2 ⟨#[120]⟩).1 (dataO [oneM 0] 2 ⟨#[120]⟩).1 1 1 = true from osX_same] at HSA; have HB3 := hide ((unhide HB2).trans (hb3.mono (unhide HB2).size)); clear hb3)
    | (go_at_call 31; refine (unhide HSA).mono ?_; rintro e w4 ⟨rfl, hb4⟩; have HB4 := hide hb4; clear hb4))
  go_ret
  exact ⟨rfl, (unhide HB3).trans ((unhide HB4).mono (unhide HB3).size)⟩

set_option maxHeartbeats 2000000 in
theorem sames_walk {w : World} (a b : Option Addr) (ca cb : Nat) (l m : List Op3) (hs : Script3 w a l) (hn : l.length ≤ maxLen) (hs' : Script3 w b m) (hn' : m.length ≤ maxLen) (x y : Int) :
    Calls Try.prog 8 #[.slice a l.length ca, .slice b m.length cb, .int .i64 x, .int .i64 y] w fun e w' => e = .returned (.bool true) ∧ Below w.heap.size w w' := by
  have HB1 := hide (build_any a ca l hs hn)
  have HS2 := hide hs'
  clear hs hs'
  go_enter Try.func8, Try.ntmps8
  set_option maxRecDepth 10000 in
  go_wp2_with (first
    | (go_at_call 27; have _x := unhide HW1; refine (unhide HB2).mono ?_; rintro e w2 ⟨bR2, os2, rfl, hB2⟩; have HBo2 := hide hB2; have HW2 := hide (show Below w1.heap.size w1 w2 by obtain ⟨_, _, _, hp⟩ := hB2; exact hp.below); clear hB2)
    | (go_at_call 27; refine (unhide HB1).mono ?_; rintro e w1 ⟨bR1, os1, rfl, hB1⟩; have HBo1 := hide hB1; have HW1 := hide (show Below w.heap.size w w1 by obtain ⟨_, _, _, hp⟩ := hB1; exact hp.below); have HB2 := hide (build_any b cb m ((unhide HS2).below (unhide HW1)) hn'); clear hB1)
    | (go_at_call 31; refine ((show ∀ W, Below w2.heap.size w2 W → Calls Try.prog 31 #[.pointer (some ⟨w.heap.size + 3, 0, none⟩), .int .i64 x, .pointer (some ⟨w1.heap.size + 3, 0, none⟩), .int .i64 y] W fun e w' => e = .returned (.bool (SSI os1 os2 x y)) ∧ Below W.heap.size W w' from fun W hW => by
        obtain ⟨_, _, _, p1⟩ := (unhide HBo1).more (unhide HW2)
        obtain ⟨_, _, _, p2⟩ := unhide HBo2
        exact sameS_any (p1.ar.below hW) (p2.ar.below hW) p1.sim p2.sim x y) _ (by first | exact Below.refl _ _ | exact unhide HW3)).mono ?_; rintro e w3 ⟨rfl, hb3⟩; have HW3 := hide hb3; clear hb3)
    | (go_at_call 32; refine ((show ∀ W, Below w2.heap.size w2 W → Calls Try.prog 32 #[.pointer (some ⟨bR1, 0, none⟩), .int .i64 x, .pointer (some ⟨bR2, 0, none⟩), .int .i64 y] W fun e w' => e = .returned (.bool (SSI os1 os2 x y)) ∧ Below W.heap.size W w' from fun W hW => by
        obtain ⟨_, _, _, p1⟩ := (unhide HBo1).more (unhide HW2)
        obtain ⟨_, _, _, p2⟩ := unhide HBo2
        exact refSame_any p1.rf p2.rf p1.sim p2.sim x y W hW) _ (by exact unhide HW3)).mono ?_; rintro e w4 ⟨rfl, hb4⟩; have HW4 := hide ((unhide HW3).trans (hb4.mono (unhide HW3).size)); clear hb4)
    | (go_at_call 30; refine (awake3_any _).mono ?_; rintro e w5 ⟨rfl, hb5⟩; have HW5 := hide hb5; clear hb5))
  go_ret
  have h4 := (unhide HW2).trans ((unhide HW4).mono (unhide HW2).size)
  have h5 := h4.trans ((unhide HW5).mono h4.size)
  exact ⟨rfl, (unhide HW1).trans (h5.mono (unhide HW1).size)⟩
end Go.Proofs.Ytlbkoafeedlfaaa

namespace Go.Proofs.Ytlbkoafeedlfaaa.showSames
open Go.ChangeShapes Go.WideShapes Go.ChangeAt Go.RowKit
open Go.ChangeMaps (open_string shut_string)
set_option linter.unusedVariables false

theorem own : ownKnob Try.prog.godebug = none := by kernel_rfl
theorem laidOut : laidOutB Try.prog = true := by kernel_rfl

set_option maxRecDepth 100000 in
theorem lifted (os : Os) (started : os.Started) (H : Type) (enc : TypeId × Value → H) :
    ReturnsInHanded {} Try.checked os 8 .any (Rows.showSamesSpec.pre6 enc Try.prog Try.f8 Rows.showSamesRow.domain false) (Rows.showSamesSpec.post enc Try.prog Try.f8 false true false false) := by
  refine returnsInHanded_of_change_sized (C := Try.checked) own started (by kernel_rfl) Try.func8
    (ChangeSpec.witness6 (enc := enc) (C := Try.checked) false ⟨#[], #[.slice none 0 0, .slice none 0 0, .int .i64 0, .int .i64 0], []⟩ 8 (by kernel_rfl) (by kernel_rfl) (by kernel_rfl) (by kernel_rfl)) ?_
  intro W base args ds gs before hval0 hW hcnd hsz0 _
  have hval : ∀ (j : Nat) t v, Try.f8.params[j]? = some t → args[j]? = some v → Value.okWide Try.prog W .any base t v := hval0
  have hsz : ∀ (j : Nat) d, j < 2 → (ds ++ gs)[j]? = some d → (d.weights Try.prog 52).all (· ≤ reachBytes) = true := by
    intro j d hj hd
    refine List.all_eq_true.2 fun n hn => List.all_eq_true.1 hsz0 n ?_
    rcases (by omega : j = 0 ∨ j = 1) with rfl | rfl
    · exact DataW.weights_mem_each (j := 0) (t := 52) (d := d) (by rw [show Try.checked.prog = Try.prog from rfl, Try.params8]; rfl) hd n hn
    · exact DataW.weights_mem_each (j := 1) (t := 52) (d := d) (by rw [show Try.checked.prog = Try.prog from rfl, Try.params8]; rfl) hd n hn
  have hW' := hW
  obtain ⟨p, q, hA0, hV, rfl, hfz, hnd⟩ := hW
  have hA : DataW.TrodAll enc Try.prog W 0 (fun _ => true) true Try.f8.params.toList args.toList ds p := hA0
  rw [Try.params8] at hA hval
  obtain ⟨v0, vs0, d0, ds0, p0, q0, hargs, rfl, rfl, h0, r0⟩ := trodAll_cons hA
  obtain ⟨v1, vs1, d1, ds1, p1, q1, hargs1, rfl, rfl, h1, r1⟩ := trodAll_cons r0
  obtain ⟨v2, vs2, d2, ds2, p2, q2, hargs2, rfl, rfl, h2, r2⟩ := trodAll_cons r1
  obtain ⟨v3, vs3, d3, ds3, p3, q3, hargs3, rfl, rfl, h3, r3⟩ := trodAll_cons r2
  obtain ⟨rfl, rfl, rfl⟩ := trodAll_nil r3
  obtain rfl : args = #[v0, v1, v2, v3] := by cases args; simp_all
  obtain ⟨rfl, rfl⟩ := trodVars_none hV
  obtain ⟨a0, len0, cap0, rfl⟩ := okWide_slice Try.underlying52 (hval 0 52 v0 rfl rfl)
  obtain ⟨a1, len1, cap1, rfl⟩ := okWide_slice Try.underlying52 (hval 1 52 v1 rfl rfl)
  obtain ⟨x, rfl, rfl, rfl, wx⟩ := open_int Try.underlying3 (hval 2 3 v2 rfl rfl) h2
  obtain ⟨y, rfl, rfl, rfl, wy⟩ := open_int Try.underlying3 (hval 3 3 v3 rfl rfl) h3
  have k0 := h0
  have k1 := h1
  have lt0 : ∀ x ∈ p0, x.block < W.heap.size := by obtain ⟨m, hm⟩ := k0; exact DataW.trod_lt m _ _ _ hm
  have lt1 : ∀ x ∈ p1, x.block < W.heap.size := by obtain ⟨m, hm⟩ := k1; exact DataW.trod_lt m _ _ _ hm
  obtain ⟨l, rfl, hl, hn⟩ := script3_open h0 (hsz 0 d0 (by omega) rfl)
  obtain ⟨m, rfl, hl1, hn1⟩ := script3_open h1 (hsz 1 d1 (by omega) rfl)
  clear hA0 hval0
  refine (sames_walk a0 a1 cap0 cap1 l m hl hn hl1 hn1 x y).mono fun e W' ⟨he, bel⟩ => ?_
  subst he
  exact ⟨_, rfl, _, _, _, [], _, [], hW', trodAll_mk1 (shut_bool Try.underlying4 _), (trodAll_cons_mk (Below.trod laidOut (by kernel_rfl) (of_decide_eq_true (by kernel_rfl)) k0 bel lt0) (trodAll_cons_mk (Below.trod laidOut (by kernel_rfl) (of_decide_eq_true (by kernel_rfl)) k1 bel lt1) (trodAll_cons_mk (shut_int Try.underlying3 wx) (trodAll_cons_mk (shut_int Try.underlying3 wy) trodAll_mk0)))), rfl, bel.frame _, fun h => by cases h⟩

theorem over : Rows.showSamesRow.holds Try.pinned (OpenSpec.ofChange Rows.showSamesSpec) :=
  OpenClaim.holds_of_wide 8 Try.f8 rfl rfl rfl rfl rfl rfl rfl ⟨rfl, rfl, rfl, rfl, rfl⟩ rfl rfl rfl rfl rfl (by kernel_rfl) Try.func8 (by kernel_rfl)
    (of_decide_eq_true (by kernel_rfl)) (by unfold Func.isWrapper; first | (rw [if_pos (by decide +kernel)]; kernel_rfl) | (rw [if_neg (by decide +kernel)]; exact ⟨rfl, rfl⟩))
    (fun os started H enc _ => lifted os started H enc)

end Go.Proofs.Ytlbkoafeedlfaaa.showSames
namespace Go.Proofs.Ytlbkoafeedlfaaa
theorem showSames_holds : Rows.ShowSamesSaid := showSames.over
end Go.Proofs.Ytlbkoafeedlfaaa
