/-
  
-/
import Derived.Test.YtmnmaenmoaehlaaGreatDoorSZaf
namespace Go.Proofs.YtmnmaenmoaehlaaGreatDoor
open Go.RowKit

section
variable {w w' : World} {base bR : Nat} {os : List OneM} {G : Nat → Prop}

theorem ownsRow_cap {w : World} {base : Nat} {e : TypeId} {size g n m cap : Nat} {xs : List Value} (h : w.ownsRow base e size (.slice (some ⟨g, 0, none⟩) m cap) n xs) : n ≤ cap := by
  rcases h.2 with ⟨h', _⟩ | ⟨g', cap', cur, h', _, _, hc, _⟩
  · simp at h'
  · simp only [Value.slice.injEq, Option.some.injEq, Addr.mk.injEq, and_true] at h'
    omega

theorem elem_add {wr w1 : World} {g cp : Nat} {rs : List OneR} (h : Rf wr base bR g cp rs) (hG : ∀ k, G k ↔ footR bR g rs k) (hb : Below w.heap.size w wr) (hb1 : Below wr.heap.size wr w1) (space : Int) (name : ByteArray) (l : List AttrM) (av : Value)
    (hav : ∃ a c, av = .slice a l.length c ∧ AttrsIn w1 a l ∧ l.length ≤ c) (hlen : l.length ≤ 1024) (hfr : ∀ k, blk av = some k → wr.heap.size ≤ k ∧ k < w1.heap.size) :
    Calls Tryz.prog 38 #[.pointer (some ⟨bR, 0, none⟩), .agg #[.int .i64 1, .int .i64 space, .string name, av, .string ⟨#[]⟩, .string ⟨#[]⟩, .int .i64 0, .int .i64 0, .int .i64 0, .slice none 0 0]] w1 fun e w' =>
      e = .returned (.tuple #[.int .i64 (addO (osOf rs) (elemQ space name l)).2.1, .int .i64 (addO (osOf rs) (elemQ space name l)).2.2]) ∧ URf G w w' base bR (addO (osOf rs) (elemQ space name l)).1 := by
  have hbase : base ≤ wr.heap.size := Nat.le_trans h.base_g (Nat.le_of_lt h.lt.2)
  have hl : Lists w1 base bR g ⟨{ elemQ space name l with inner := 0, host := 0, up := 0 }, av, .slice none 0 0⟩ := by
    refine ⟨?_, ⟨none, 0, rfl, ⟨fun i x hi => by simp [elemQ, oneM] at hi⟩, by simp [elemQ, oneM]⟩, fun k e => ?_⟩
    · obtain ⟨a, c, e, ha, hca⟩ := hav
      exact ⟨a, c, e, ha, hlen, hca⟩
    · rcases e with e | e
      · obtain ⟨h1, h2⟩ := hfr k e
        have := h.lt
        exact ⟨by omega, h2, by omega, by omega⟩
      · simp [blk] at e
  exact refAdd_sim (h.below hb1) hG (hb.trans (hb1.mono hb.size)) ⟨{ elemQ space name l with inner := 0, host := 0, up := 0 }, av, .slice none 0 0⟩ hl (elemQ space name l) rfl (fun k e => by
    rcases e with e | e
    · exact .inr (Nat.le_trans hb.size (hfr k e).1)
    · simp [blk] at e)

theorem elem_grow {wr w1 : World} {g cp g' cap' : Nat} {rs : List OneR} (h : Rf wr base bR g cp rs) (hG : ∀ k, G k ↔ footR bR g rs k) (hb : Below w.heap.size w wr) (space : Int) (name : ByteArray) (l : List AttrM) (hlen : l.length ≤ 1024)
    (hown : w1.ownsRow wr.heap.size 93 4 (.slice (some ⟨g', 0, none⟩) (0 + l.length) cap') (0 + l.length) ([] ++ attrRow l)) (hgrow : (wr.alloc (.cells #[] 93)).grownBy w1 (Value.slice (some ⟨wr.heap.size, 0, none⟩) 0 0).ownBlock)
    (hat : (Value.slice (some ⟨wr.heap.size, 0, none⟩) 0 0).ownBlock = some g' ∨ g' = wr.heap.size + 1) (hlt : g' < w1.heap.size) :
    Calls Tryz.prog 38 #[.pointer (some ⟨bR, 0, none⟩), .agg #[.int .i64 1, .int .i64 space, .string name, .slice (some ⟨g', 0, none⟩) l.length cap', .string ⟨#[]⟩, .string ⟨#[]⟩, .int .i64 0, .int .i64 0, .int .i64 0, .slice none 0 0]] w1 fun e w' =>
      e = .returned (.tuple #[.int .i64 (addO (osOf rs) (elemQ space name l)).2.1, .int .i64 (addO (osOf rs) (elemQ space name l)).2.2]) ∧ URf G w w' base bR (addO (osOf rs) (elemQ space name l)).1 := by
  simp only [Nat.zero_add, List.nil_append] at hown
  refine elem_add h hG hb (((Below.refl _ wr).alloc (Nat.le_refl _) _).grown hgrow (by simp) (fun k hk => by simp [Value.ownBlock] at hk; omega)) space name l _ ?_ hlen (fun k e => ?_)
  · obtain ⟨a2, c2, e2, hin2⟩ := ownsRow_attrs hown
    cases e2
    exact ⟨_, _, rfl, hin2, ownsRow_cap hown⟩
  · simp [blk] at e
    subst e
    refine ⟨?_, hlt⟩
    rcases hat with e | e
    · simp [Value.ownBlock] at e; omega
    · omega

theorem elem_bare {wr : World} {g cp : Nat} {rs : List OneR} (h : Rf wr base bR g cp rs) (hG : ∀ k, G k ↔ footR bR g rs k) (hb : Below w.heap.size w wr) (space : Int) (name : ByteArray) :
    Calls Tryz.prog 38 #[.pointer (some ⟨bR, 0, none⟩), .agg #[.int .i64 1, .int .i64 space, .string name, .slice (some ⟨wr.heap.size, 0, none⟩) 0 0, .string ⟨#[]⟩, .string ⟨#[]⟩, .int .i64 0, .int .i64 0, .int .i64 0, .slice none 0 0]] (wr.alloc (.cells #[] 93)) fun e w' =>
      e = .returned (.tuple #[.int .i64 (addO (osOf rs) (elemQ space name [])).2.1, .int .i64 (addO (osOf rs) (elemQ space name [])).2.2]) ∧ URf G w w' base bR (addO (osOf rs) (elemQ space name [])).1 :=
  elem_add h hG hb ((Below.refl _ wr).alloc (Nat.le_refl _) _) space name [] _ ⟨_, _, rfl, ⟨fun i x hi => by simp at hi⟩, by simp⟩ (by simp) (fun k e => by simp [blk] at e; subst e; simp)

theorem Mod.chain {w w1 w2 : World} {G G' : Nat → Prop} (h : Mod G w w1) (h' : Mod G' w1 w2) (hg : ∀ k, G' k → G k ∨ w.heap.size ≤ k) : Mod G w w2 :=
  ⟨h'.os.trans h.os, h'.tape.trans h.tape, h'.output.trans h.output, Nat.le_trans h.size h'.size, fun k hk hn => (h'.block k (Nat.lt_of_lt_of_le hk h.size) (fun e => by rcases hg k e with e | e; exact hn e; omega)).trans (h.block k hk hn)⟩
theorem URf.chain {w1 w2 : World} {G' : Nat → Prop} {os' : List OneM} (hm : Mod G w w1) (hg : ∀ k, G' k → G k ∨ w.heap.size ≤ k) (h : URf G' w1 w2 base bR os') : URf G w w2 base bR os' := by
  obtain ⟨G2, h1, h2, h3⟩ := h
  refine ⟨G2, h1, hm.chain h2 hg, fun k hk => ?_⟩
  rcases h3 k hk with e | e
  · exact hg k e
  · exact .inr (Nat.le_trans hm.size e)

theorem tmpl_end {w5 w6 : World} {G5 G6 : Nat → Prop} {g cp : Nat} {rs : List OneR} {p1 p2 : Nat} {v1 v2 : Value} {os' : List OneM} (hm5 : Mod G w w5) (hg5 : ∀ k, G5 k → G k ∨ w.heap.size ≤ k) (hm6 : Mod G5 w5 w6) (hg6 : ∀ k, G6 k → G5 k ∨ w5.heap.size ≤ k) (hG6 : ∀ k, G6 k ↔ footR bR g rs k)
    (h : ∃ rs', Rf ((w6.setCell ⟨g, p1, none⟩ v1).setCell ⟨g, p2, none⟩ v2) base bR g cp rs' ∧ osOf rs' = os' ∧ ∀ k, footR bR g rs' k → footR bR g rs k) : URf G w ((w6.setCell ⟨g, p1, none⟩ v1).setCell ⟨g, p2, none⟩ v2) base bR os' := by
  obtain ⟨rs', h1, h2, h3⟩ := h
  refine URf.chain hm5 hg5 (URf.chain hm6 hg6 ⟨_, ⟨g, cp, rs', h1, h2, fun k => Iff.rfl⟩, ?_, fun k hk => .inl ((hG6 k).2 (h3 k hk))⟩)
  have hgg : G6 g := (hG6 g).2 (.inr (.inl rfl))
  exact (Mod.setCell (F := G6) w6 ⟨g, p1, none⟩ v1 hgg).trans (Mod.setCell (F := G6) _ ⟨g, p2, none⟩ v2 hgg)

theorem set_get {α : Type} {l : List α} {i j : Nat} (x : α) (h : i ≠ j) : (l.set i x)[j]? = l[j]? := List.getElem?_set_ne h

/-- A template's two nodes told of one another. -/
theorem tmpl_close {w6 : World} {g cp : Nat} {rs : List OneR} (h : Rf w6 base bR g cp rs) (os : List OneM) (q1 q2 : OneM) (ho : osOf rs = os ++ [q1] ++ [q2]) :
    ∃ rs', Rf ((w6.setCell ⟨g, os.length * 10 + 6, none⟩ (.int .i64 ((os.length : Int) + 1))).setCell ⟨g, (os.length + 1) * 10 + 7, none⟩ (.int .i64 (os.length : Int))) base bR g cp rs' ∧
      osOf rs' = os ++ [{ q1 with inner := (os.length : Int) + 1 }, { q2 with host := (os.length : Int) }] ∧ ∀ k, footR bR g rs' k → footR bR g rs k := by
  have hlen : rs.length = os.length + 2 := by rw [← osOf_len, ho]; simp
  obtain ⟨r1, hr1⟩ : ∃ r, rs[os.length]? = some r := ⟨_, List.getElem?_eq_getElem (by omega)⟩
  obtain ⟨r2, hr2⟩ : ∃ r, rs[os.length + 1]? = some r := ⟨_, List.getElem?_eq_getElem (by omega)⟩
  have e1 : r1.o = q1 := by have := osOf_get hr1; rw [ho] at this; simp at this; exact this.symm
  have e2 : r2.o = q2 := by
    have := osOf_get hr2; rw [ho, List.getElem?_append_right (by simp)] at this; simp at this; exact this.symm
  have L1 := h.lists hr1
  have L2 := h.lists hr2
  have h1 := h.setC (r' := { r1 with o := { r1.o with inner := (os.length : Int) + 1 } }) hr1 6 (by omega) (.int .i64 ((os.length : Int) + 1)) rfl ⟨L1.attrs, L1.kids, L1.held⟩
  have hr2' : (rs.set os.length { r1 with o := { r1.o with inner := (os.length : Int) + 1 } })[os.length + 1]? = some r2 := by rw [set_get _ (by omega)]; exact hr2
  have L2' := h1.lists hr2'
  have h2 := h1.setC (r' := { r2 with o := { r2.o with host := (os.length : Int) } }) hr2' 7 (by omega) (.int .i64 (os.length : Int)) rfl ⟨L2'.attrs, L2'.kids, L2'.held⟩
  refine ⟨_, h2, ?_, ?_⟩
  · apply List.ext_getElem?
    intro j
    by_cases j1 : j < os.length
    · have : (osOf rs)[j]? = os[j]? := by rw [ho, List.append_assoc, List.getElem?_append_left j1]
      rw [List.getElem?_append_left j1, ← this]
      simp only [osOf, List.getElem?_map]
      rw [set_get _ (by omega), set_get _ (by omega)]
    · by_cases j2 : j = os.length
      · subst j2
        simp only [osOf, List.getElem?_map]
        rw [set_get _ (by omega), List.getElem?_set_self (by omega)]
        simp [e1]
      · by_cases j3 : j = os.length + 1
        · subst j3
          simp only [osOf, List.getElem?_map]
          rw [List.getElem?_set_self (by simp; omega), List.getElem?_append_right (by omega)]
          simp [e2]
        · rw [List.getElem?_eq_none (by simp [osOf]; omega), List.getElem?_eq_none (by simp; omega)]
  · rintro k (hk | hk | ⟨x, hx, hk⟩)
    · exact .inl hk
    · exact .inr (.inl hk)
    · rcases List.mem_or_eq_of_mem_set hx with hx | rfl
      · rcases List.mem_or_eq_of_mem_set hx with hx | rfl
        · exact .inr (.inr ⟨x, hx, hk⟩)
        · exact .inr (.inr ⟨r1, List.mem_of_getElem? hr1, hk⟩)
      · exact .inr (.inr ⟨r2, List.mem_of_getElem? hr2, hk⟩)

set_option maxHeartbeats 2000000 in
theorem refElement_in (h : RfS w base bR os G) (space : Int) (name : ByteArray) (a : Option Addr) (cap : Nat) (l : List AttrM) (hl : AttrsIn w a l) (hs : 0 ≤ space ∧ space ≤ 2) (hn : l.length ≤ 1024) (hnm : longS name = false) :
    Calls Tryz.prog 13 #[.pointer (some ⟨bR, 0, none⟩), .int .i64 space, .string name, .slice a l.length cap] w fun e w' => e = .returned (.tuple #[.int .i64 (elemO os space name l).2.1, .int .i64 (elemO os space name l).2.2]) ∧ URf G w w' base bR (elemO os space name l).1 := by
  have h1 : ¬ space < 0 := by omega
  have h2 : ¬ 2 < space := by omega
  have hc' : ¬ (1024 : Int) < (l.length : Int) := by omega
  have hl' : ¬ (1048576 : Int) < (name.size : Int) := by unfold longS at hnm; simp at hnm; omega
  have HIN := hide hl
  have HNM := hide hnm
  have HS := hide h
  clear hl hnm h
  go_enter Tryz.func13, Tryz.ntmps13
  go_wp2_with fail
  go_loopg [10] l.length (fun k s wx => ∃ j : Nat, s = .int .i64 j ∧ j + k = l.length ∧ (∀ q x, q < j → l[q]? = some x → x.long = false) ∧ Below w.heap.size w wx)
  case atStart => exact ⟨0, rfl, by omega, fun q x hq => by omega, Below.refl _ _⟩
  case round =>
    obtain ⟨j, rfl, hjk, hall, hb⟩ := hrel
    have HA := hide hall
    have HB := hide hb
    clear hall hb
    by_cases hj : j < l.length
    · have hx : l[j]? = some l[j] := List.getElem?_eq_getElem hj
      generalize l[j] = x at hx
      obtain ⟨b, off, rfl, d0, d1, d2, d3⟩ := ((unhide HIN).below (unhide HB)).cells j x hx
      have hjz : (j : Int) < (l.length : Int) := by omega
      have HX := hide hx
      have HLg := hide (refLong_any (wr.alloc (.cells #[.string x.pre, .string x.name, .string x.val] 9)).drew wr.heap.size 3 [x.pre, x.name, x.val] (fun j s hj => threeS wr 9 x.pre x.name x.val j s hj) (by simp))
      have HB4 := hide ((((unhide HB).alloc (by exact (unhide HB).size) (.cells #[.string x.pre, .string x.name, .string x.val] 9))).drew)
      clear hx
      go_wp2_with fail
      cases hxl : x.long with
      | true =>
        have e3 : [x.pre, x.name, x.val].any longS = true := hxl
        rw [e3] at HLg
        have hE : elemO os space name l = (os, 0, 2) := by
          have h3 : l.any AttrM.long = true := List.any_eq_true.2 ⟨x, List.mem_of_getElem? (unhide HX), hxl⟩
          unfold elemO
          rw [if_neg (by omega), if_pos (by unfold longE; rw [h3]; simp)]
        have HE := hide hE
        clear hxl e3 hE
        go_region_with (go_at_call 37; refine (unhide HLg).mono ?_; rintro e w4 ⟨rfl, rfl⟩)
        all_goals go_wp2
        all_goals go_ret2
        all_goals exact ⟨by rw [unhide HE]; rfl, by rw [unhide HE]; exact (unhide HS).upd (unhide HB4)⟩
      | false =>
        have e3 : [x.pre, x.name, x.val].any longS = false := hxl
        rw [e3] at HLg
        have HXL := hide hxl
        clear hxl e3
        have HNX := hide (show ∀ q y, q < j + 1 → l[q]? = some y → y.long = false from fun q y hq hy => by
          by_cases e : q = j
          · subst e; rw [unhide HX] at hy; cases hy; exact unhide HXL
          · exact (unhide HA) q y (by omega) hy)
        go_region_with (go_at_call 37; refine (unhide HLg).mono ?_; rintro e w4 ⟨rfl, rfl⟩)
        all_goals go_wp2
        all_goals
          go_roundg (gk - 1)
          case measure => omega
          case rel => exact ⟨j + 1, by go_num, by omega, unhide HNX, unhide HB4⟩
    · have hjz : ¬ (j : Int) < (l.length : Int) := by omega
      have hno : l.any AttrM.long = false := by
        rw [List.any_eq_false]; intro x hx
        obtain ⟨q, hq⟩ := List.mem_iff_getElem?.1 hx
        have := (unhide HA) q x (by have := (List.getElem?_eq_some_iff.1 hq).1; omega) hq
        simp [this]
      have hlE : longE name l = false := by simp only [longE, unhide HNM, hno, Bool.or_false, Bool.false_or]; simp; omega
      have HLE := hide hlE
      clear hno hlE
      have hS := (unhide HS).below (unhide HB)
      obtain ⟨g, cp, rs, h, rfl, hG⟩ := hS
      have hA := h.cR
      have hlR := h.lt.1
      have hmost := h.most
      have HIN2 := hide ((unhide HIN).below (unhide HB))
      have HH := hide h
      have HGG := hide hG
      clear h hG
      cases ht : (decide (space = 0) && isT name) with
      | true =>
        have h12 : space = 0 ∧ isT name = true := by simpa using ht
        obtain ⟨rfl, hT⟩ := h12
        have hE0 : elemO (osOf rs) 0 name l = if rs.length + 2 ≤ 32768 then (osOf rs ++ [{ elemQ 0 name l with inner := (rs.length : Int) + 1 }, { oneM 5 with host := (rs.length : Int) }], (rs.length : Int), 0) else (osOf rs, 0, 9) := by
          unfold elemO
          rw [if_neg (by omega), unhide HLE, if_neg (by decide), if_pos ⟨rfl, hT⟩, osOf_len]
        unfold isT at hT
        clear ht
        by_cases hfull : rs.length + 2 ≤ 32768
        · rw [if_pos hfull] at hE0
          have HE := hide hE0
          have hres : addO (osOf rs) (elemQ 0 name l) = (osOf rs ++ [elemQ 0 name l], (rs.length : Int), 0) := by rw [addO, osOf_len, if_pos (by omega)]
          have hfr : fragO (osOf rs ++ [elemQ 0 name l]) = (osOf rs ++ [elemQ 0 name l] ++ [oneM 5], (rs.length : Int) + 1, 0) := by
            rw [fragO, addO, List.length_append, osOf_len, if_pos (by simp; omega)]; simp
          have HRES := hide hres
          have HFR := hide hfr
          have hz : ¬ (32768 : Int) < (rs.length : Int) + 2 := by omega
          clear hE0 hres hfr
          by_cases hl0 : 0 < l.length
          · obtain ⟨b, off, rfl⟩ := Addr.of_lt (unhide HIN) hl0
            have HNW := hide (((unhide HIN2).below ((Below.refl _ wr).alloc (Nat.le_refl _) (.cells #[] 93))).row)
            have HEM := hide (empty_row wr 93 4 wr.heap.size (Nat.le_refl _))
            obtain ⟨i0, hi0, hz0, hz1, hz2⟩ := info_parts Tryz.info93
            set_option maxRecDepth 10000 in
            go_wp2_with (first
              | (at_builtin; go_must (refine wpList_append_lies _ (by rfl) _ _ 22 (by rfl) wr.heap.size 93 i0 _ 4 56 Tryz.underlying22 hi0 hz0 hz1 hz2 rfl (by omega) (.slice (some ⟨wr.heap.size, 0, none⟩) 0 0) 0 [] (by rfl) (unhide HEM) ⟨b, off, none⟩ l.length cap (attrRow l) (by rfl) (flat_len AttrM.cells 4 attr_len l) (unhide HNW) (attrs_oneCell l) hl0 (by unfold maxLen; omega) (by omega) (by simp) (wr.heap.size + 1) (by simp) ?_); intro g' cap' w1 hown1 hgrow hat hltg; have HC := hide (elem_grow (unhide HH) (unhide HGG) (unhide HB) 0 name l hn hown1 hgrow hat hltg); rw [unhide HRES] at HC; clear hown1 hgrow hat hltg)
              | (go_at_call 38; refine (unhide HC).mono ?_; rintro e w5 ⟨rfl, G5, hS5, hm5, hg5⟩; have HF := hide (refFragment_sim hS5); rw [unhide HFR] at HF; have HM5 := hide hm5; have HG5 := hide hg5; clear hS5 hm5 hg5)
              | (go_at_call 39; refine (unhide HF).mono ?_; rintro e w6 ⟨rfl, G6, ⟨g6, cp6, rs6, h6, ho6, hG6⟩, hm6, hg6⟩; have hl6 : rs6.length = rs.length + 2 := (by rw [← osOf_len, ho6]; simp [osOf]); have cR6 := h6.cR; rw [hl6] at cR6; have n6 := h6.neRg; have f6 := h6.fg; obtain ⟨v6, d6⟩ := h6.there (i := rs.length) (List.getElem?_eq_getElem (by omega)) 6 (by omega); obtain ⟨v7, d7⟩ := h6.there (i := rs.length + 1) (List.getElem?_eq_getElem (by omega)) 7 (by omega); have HCL := hide (tmpl_close h6 (osOf rs) (elemQ 0 name l) (oneM 5) (by rw [ho6])); rw [osOf_len] at HCL; have HM6 := hide hm6; have HG6 := hide hg6; have HG7 := hide hG6; clear hl6 h6 ho6 hG6 hm6 hg6))
            go_ret2
            exact ⟨by rw [unhide HE]; rfl, by rw [unhide HE]; exact tmpl_end (unhide HM5) (unhide HG5) (unhide HM6) (unhide HG6) (unhide HG7) (unhide HCL)⟩
          · obtain rfl : l = [] := List.eq_nil_of_length_eq_zero (by omega)
            have HC := hide (elem_bare (unhide HH) (unhide HGG) (unhide HB) 0 name)
            rw [unhide HRES] at HC
            simp only [List.length_nil] at hn hc' hjz
            cases a
            all_goals
              go_wp2_with (first
                | (go_at_call 38; refine (unhide HC).mono ?_; rintro e w5 ⟨rfl, G5, hS5, hm5, hg5⟩; have HF := hide (refFragment_sim hS5); rw [unhide HFR] at HF; have HM5 := hide hm5; have HG5 := hide hg5; clear hS5 hm5 hg5)
                | (go_at_call 39; refine (unhide HF).mono ?_; rintro e w6 ⟨rfl, G6, ⟨g6, cp6, rs6, h6, ho6, hG6⟩, hm6, hg6⟩; have hl6 : rs6.length = rs.length + 2 := (by rw [← osOf_len, ho6]; simp [osOf]); have cR6 := h6.cR; rw [hl6] at cR6; have n6 := h6.neRg; have f6 := h6.fg; obtain ⟨v6, d6⟩ := h6.there (i := rs.length) (List.getElem?_eq_getElem (by omega)) 6 (by omega); obtain ⟨v7, d7⟩ := h6.there (i := rs.length + 1) (List.getElem?_eq_getElem (by omega)) 7 (by omega); have HCL := hide (tmpl_close h6 (osOf rs) (elemQ 0 name []) (oneM 5) (by rw [ho6])); rw [osOf_len] at HCL; have HM6 := hide hm6; have HG6 := hide hg6; have HG7 := hide hG6; clear hl6 h6 ho6 hG6 hm6 hg6))
              go_ret2
              exact ⟨by rw [unhide HE]; rfl, by rw [unhide HE]; exact tmpl_end (unhide HM5) (unhide HG5) (unhide HM6) (unhide HG6) (unhide HG7) (unhide HCL)⟩
        · rw [if_neg hfull] at hE0
          have HE := hide hE0
          have hz : (32768 : Int) < (rs.length : Int) + 2 := by omega
          have HU := hide ((show RfS wr base bR (osOf rs) G from ⟨g, cp, rs, unhide HH, rfl, unhide HGG⟩).upd (Below.refl _ wr))
          clear hE0
          go_wp2
          go_ret2
          exact ⟨by rw [unhide HE]; rfl, by rw [unhide HE]; exact (unhide HU).after (unhide HB)⟩
      | false =>
        have hAr : elemO (osOf rs) space name l = addO (osOf rs) (elemQ space name l) := by
          unfold elemO
          rw [if_neg (by omega), unhide HLE, if_neg (by decide), if_neg]
          rintro ⟨e1, e2⟩
          rw [e2, e1] at ht; simp at ht
        generalize hres : addO (osOf rs) (elemQ space name l) = res at hAr
        have HE := hide hAr
        have HRES := hide hres
        clear hAr hres
        by_cases hsp : space = 0
        · have hT : isT name = false := by simpa [hsp] using ht
          unfold isT at hT
          subst hsp
          clear ht
          by_cases hl0 : 0 < l.length
          · obtain ⟨b, off, rfl⟩ := Addr.of_lt (unhide HIN) hl0
            have HNW := hide (((unhide HIN2).below ((Below.refl _ wr).alloc (Nat.le_refl _) (.cells #[] 93))).row)
            have HEM := hide (empty_row wr 93 4 wr.heap.size (Nat.le_refl _))
            obtain ⟨i0, hi0, hz0, hz1, hz2⟩ := info_parts Tryz.info93
            cases he : (res.2.2 == 0)
            all_goals
              set_option maxRecDepth 10000 in
              go_wp2_with (first
                | (at_builtin; go_must (refine wpList_append_lies _ (by rfl) _ _ 22 (by rfl) wr.heap.size 93 i0 _ 4 56 Tryz.underlying22 hi0 hz0 hz1 hz2 rfl (by omega) (.slice (some ⟨wr.heap.size, 0, none⟩) 0 0) 0 [] (by rfl) (unhide HEM) ⟨b, off, none⟩ l.length cap (attrRow l) (by rfl) (flat_len AttrM.cells 4 attr_len l) (unhide HNW) (attrs_oneCell l) hl0 (by unfold maxLen; omega) (by omega) (by simp) (wr.heap.size + 1) (by simp) ?_); intro g' cap' w1 hown1 hgrow hat hltg; have HC := hide (elem_grow (unhide HH) (unhide HGG) (unhide HB) 0 name l hn hown1 hgrow hat hltg); rw [unhide HRES] at HC; clear hown1 hgrow hat hltg)
                | (go_at_call 38; refine (unhide HC).mono ?_; rintro e w5 ⟨rfl, hu⟩))
              go_ret2
              exact ⟨by rw [unhide HE]; rfl, by rw [unhide HE]; exact hu⟩
          · obtain rfl : l = [] := List.eq_nil_of_length_eq_zero (by omega)
            have HC := hide (elem_bare (unhide HH) (unhide HGG) (unhide HB) 0 name)
            rw [unhide HRES] at HC
            simp only [List.length_nil] at hn hc' hjz
            cases he : (res.2.2 == 0)
            all_goals
              cases a
              all_goals
                go_wp2_with (go_at_call 38; refine (unhide HC).mono ?_; rintro e w5 ⟨rfl, hu⟩)
                go_ret2
                exact ⟨by rw [unhide HE]; rfl, by rw [unhide HE]; exact hu⟩
        · have hsp1 : (space == 0) = false := beq_eq_false_iff_ne.2 hsp
          clear ht
          by_cases hl0 : 0 < l.length
          · obtain ⟨b, off, rfl⟩ := Addr.of_lt (unhide HIN) hl0
            have HNW := hide (((unhide HIN2).below ((Below.refl _ wr).alloc (Nat.le_refl _) (.cells #[] 93))).row)
            have HEM := hide (empty_row wr 93 4 wr.heap.size (Nat.le_refl _))
            obtain ⟨i0, hi0, hz0, hz1, hz2⟩ := info_parts Tryz.info93
            cases he : (res.2.2 == 0)
            all_goals
              set_option maxRecDepth 10000 in
              go_wp2_with (first
                | (at_builtin; go_must (refine wpList_append_lies _ (by rfl) _ _ 22 (by rfl) wr.heap.size 93 i0 _ 4 56 Tryz.underlying22 hi0 hz0 hz1 hz2 rfl (by omega) (.slice (some ⟨wr.heap.size, 0, none⟩) 0 0) 0 [] (by rfl) (unhide HEM) ⟨b, off, none⟩ l.length cap (attrRow l) (by rfl) (flat_len AttrM.cells 4 attr_len l) (unhide HNW) (attrs_oneCell l) hl0 (by unfold maxLen; omega) (by omega) (by simp) (wr.heap.size + 1) (by simp) ?_); intro g' cap' w1 hown1 hgrow hat hltg; have HC := hide (elem_grow (unhide HH) (unhide HGG) (unhide HB) space name l hn hown1 hgrow hat hltg); rw [unhide HRES] at HC; clear hown1 hgrow hat hltg)
                | (go_at_call 38; refine (unhide HC).mono ?_; rintro e w5 ⟨rfl, hu⟩))
              go_ret2
              exact ⟨by rw [unhide HE]; rfl, by rw [unhide HE]; exact hu⟩
          · obtain rfl : l = [] := List.eq_nil_of_length_eq_zero (by omega)
            have HC := hide (elem_bare (unhide HH) (unhide HGG) (unhide HB) space name)
            rw [unhide HRES] at HC
            simp only [List.length_nil] at hn hc' hjz
            cases he : (res.2.2 == 0)
            all_goals
              cases a
              all_goals
                go_wp2_with (go_at_call 38; refine (unhide HC).mono ?_; rintro e w5 ⟨rfl, hu⟩)
                go_ret2
                exact ⟨by rw [unhide HE]; rfl, by rw [unhide HE]; exact hu⟩
end
end Go.Proofs.YtmnmaenmoaehlaaGreatDoor
