/-
  Element: a template with its contents; no room. What the calls of package node do to an arena, told by its plain nodes.
-/
import Derived.Test.YtlbkoafeedlfaaaSBad
import Derived.Test.YtlbkoafeedlfaaaSBak
namespace Go.Proofs.Ytlbkoafeedlfaaa
open Go.RowKit

theorem mod4 (w : World) (b : Nat) (v1 v2 v3 v4 : Value) (o1 o2 : Obj) : Mod (fun k => k = b) w ((((((w.setCell ⟨b, 1, none⟩ v1).setCell ⟨b, 2, none⟩ v2).setCell ⟨b, 3, none⟩ v3).setCell ⟨b, 11, none⟩ v4).alloc o1).alloc o2).drew :=
  ((((((Mod.setCell (F := fun k => k = b) w ⟨b, 1, none⟩ v1 rfl).trans (Mod.setCell (F := fun k => k = b) _ ⟨b, 2, none⟩ v2 rfl)).trans (Mod.setCell (F := fun k => k = b) _ ⟨b, 3, none⟩ v3 rfl)).trans (Mod.setCell (F := fun k => k = b) _ ⟨b, 11, none⟩ v4 rfl)).trans (Mod.alloc _ o1)).trans (Mod.alloc _ o2)).trans (Mod.of_below (Below.refl _ _).drew)

theorem last_block_drew (w : World) (o : Obj) (k : Nat) (hk : k = w.heap.size) : (w.alloc o).drew.heap[k]? = some o := last_block w o k hk

set_option maxHeartbeats 4000000 in
theorem element_tmpl {w : World} {base bA : Nat} {ns : List NodeM} {F : Nat → Prop} (h : ArS w base bA ns F) (name : ByteArray) (a : Option Addr) (cap : Nat) (l : List AttrM) (hl : AttrsIn w a l)
    (hs : isT name = true) (hlong : longE name l = false) (hf : ns.length + 2 ≤ 32768) :
    Calls Try.prog 34 #[.pointer (some ⟨bA, 0, none⟩), .int .i64 0, .string name, .slice a l.length cap] w fun e w' => e = .returned (.tuple #[.int .i64 ns.length, .int .i64 0]) ∧
      ∃ av, Upd F w w' base bA (ns ++ [{ elemN 0 name l av with inner := ns.length + 1 }, blankM 5]) := by
  have hbase := h.base_le
  obtain ⟨bS, g, cp, h, hF⟩ := h
  have hlen : l.length ≤ 1024 := by simp [longE] at hlong; omega
  have hnm : longS name = false := by simp [longE] at hlong; exact hlong.1.1
  have hla : l.any AttrM.long = false := by simp [longE] at hlong; simpa using hlong.2
  have HM := hide (made_yes h)
  have HL := hide (anyLong_any (w.alloc (.cells #[.string name] 9)) w.heap.size 1 [name] (one_cell_s w 9 name) (by simp))
  have hl1 := hl.below ((Below.refl _ w).alloc (Nat.le_refl _) (.cells #[.string name] 9))
  have HA := hide (anyLongAttr_any (w.alloc (.cells #[.string name] 9)) a cap l hl1 (by unfold maxLen; omega))
  have HB1 := hide ((Below.refl _ w).alloc (Nat.le_refl _) (.cells #[.string name] 9))
  have e1 : [name].any longS = longS name := by simp
  rw [e1, hnm] at HL
  rw [hla] at HA
  have HI := hide hl1
  have HH := hide h
  have HF := hide hF
  have ltA := h.lt.1
  have ltS := h.lt.2.1
  clear h hF hl hl1 e1 hnm hla hlong
  unfold isT at hs
  have hc' : ¬ (1024 : Int) < (l.length : Int) := by omega
  go_enter Try.func34, Try.ntmps34
  go_wp2_with (first
      | (go_at_call 53; refine (unhide HM).mono ?_; rintro e w' ⟨rfl, rfl⟩)
      | (go_at_call 88; refine (unhide HL).mono ?_; rintro e w' ⟨rfl, rfl⟩)
      | (go_at_call 89; refine (unhide HA).mono ?_; rintro e w2 ⟨rfl, hb2⟩; have HB2 := hide hb2; have sz2 : w.heap.size < w2.heap.size := (by have := hb2.size; simp at this; omega); have neA : ¬ bA = w2.heap.size + 1 := (by omega); have neS : ¬ bS = w2.heap.size + 1 := (by omega); clear hb2)
      | (go_at_call 36; refine (blank_any _).mono ?_; rintro e w' ⟨rfl, rfl⟩)
      | (go_at_call 55; refine (ownAttrs_any _ base (by have := (unhide HB2).size; simp at this ⊢; omega) a cap l ((((unhide HI).below (unhide HB2)).below ((Below.refl _ _).alloc (Nat.le_refl _) _)).below ((Below.refl _ _).alloc (Nat.le_refl _) _)) hlen).mono ?_; rintro e w4 ⟨ao, cp4, rfl, hov, hb4, hfr⟩; have HOV := hide hov; have HB4 := hide hb4; have HFR := hide hfr; have hz4 : w2.heap.size + 1 < w4.heap.size := (by have := hb4.size; simp at this; omega); have har4 := ((((unhide HH).below (unhide HB1)).below (unhide HB2)).alloc _ |>.alloc _).below hb4; have hA4 := har4.cA; have hS4 := har4.cS; obtain ⟨bc, bf⟩ := bcell hb4; simp at bc bf; clear hov hb4 hfr har4))
  go_region_with (first
      | (go_at_call 36; refine (blank_any _).mono ?_; rintro e w' ⟨rfl, rfl⟩)
      | (go_at_call 90; obtain ⟨R1, R2, R3, R4⟩ := elem_ready (unhide HH) (unhide HB1) (unhide HB2) _ _ (unhide HB4) (mod4 w4 _ _ _ _ _ _ _) l hlen _ (unhide HOV) (unhide HFR) { elemN 0 name l (.slice ao l.length cp4) with inner := ns.length + 1 } rfl rfl [blankM 5] (by simp [blankM]); refine (add_fits2 (n := { elemN 0 name l (.slice ao l.length cp4) with inner := ns.length + 1 }) (m := blankM 5) R2 R3 hf _ _ (last_block_drew _ _ _ (by simp))).mono ?_; rintro e w' ⟨rfl, g', cap', har, hmod, hgg⟩; have HR1 := hide R1; have HR4 := hide R4; clear R1 R2 R3 R4 bc bf))
  all_goals go_wp2
  all_goals go_ret2
  all_goals exact ⟨rfl, _, upd_add (unhide HF) (unhide HR1) har hmod hgg (unhide HR4)⟩
end Go.Proofs.Ytlbkoafeedlfaaa

namespace Go.Proofs.Ytlbkoafeedlfaaa
open Go.RowKit

def hasO (os : List OneM) (k : Int) : Bool := decide (0 ≤ k ∧ k < os.length)
def kindO (os : List OneM) (k : Int) : Int := ((os[k.toNat]?).map (·.kind)).getD (-1)
def upIO (os : List OneM) (k : Int) : Int := ((os[k.toNat]?).map (·.up)).getD (-1)
def kidsO (os : List OneM) (k : Int) : List Nat := if hasO os k then ((os[k.toNat]?).map (·.kids)).getD [] else []
/-- The way up from a node, walked with so much breath. -/
def pathO (f : Nat → Option Int) : Nat → Int → Option (List Nat)
  | 0, k => if k = -1 then some [] else none
  | c + 1, k => if k = -1 then some [] else if 0 ≤ k then (match f k.toNat with
    | some m => (pathO f c m).map (k.toNat :: ·)
    | none => none) else none
def aboveO (os : List OneM) (i j : Int) : Bool := hasO os i && hasO os j && ((pathO (upO os) os.length i).map (inPath · j)).getD false

theorem pathO_sound {f : Nat → Option Int} : ∀ {c : Nat} {k : Int} {path : List Nat}, pathO f c k = some path → PathOf f k path
  | 0, k, path, h => by
    unfold pathO at h
    split at h
    · cases h; assumption
    · cases h
  | c + 1, k, path, h => by
    unfold pathO at h
    split at h
    · cases h; assumption
    · split at h
      · cases hf : f k.toNat with
        | none => rw [hf] at h; cases h
        | some m =>
          rw [hf] at h
          replace h : Option.map (fun x => k.toNat :: x) (pathO f c m) = some path := h
          cases hp : pathO f c m with
          | none => rw [hp] at h; cases h
          | some r =>
            rw [hp] at h
            cases h
            exact ⟨by omega, m, hf, pathO_sound hp⟩
      · cases h
theorem pathO_full {f : Nat → Option Int} : ∀ {path : List Nat} {c : Nat} {k : Int}, PathOf f k path → path.length ≤ c → pathO f c k = some path
  | [], c, k, h, _ => by
    have h0 : k = -1 := h
    cases c <;> (unfold pathO; rw [if_pos h0])
  | i :: r, c, k, h, hl => by
    obtain ⟨e, m, hm, hr⟩ := h
    cases c with
    | zero => simp at hl
    | succ c =>
      have ih := pathO_full hr (c := c) (by simpa using hl)
      subst e
      unfold pathO
      rw [if_neg (by omega), if_pos (by omega), Int.toNat_natCast, hm]
      simp only [ih, Option.map_some]
theorem path_tail {f : Nat → Option Int} {x : Nat} : ∀ {l : List Nat} {k : Int}, PathOf f k l → x ∈ l → ∃ t, PathOf f x t ∧ t.length ≤ l.length
  | [], _, _, hx => by cases hx
  | i :: r, k, h, hx => by
    by_cases e : i = x
    · subst e
      exact ⟨i :: r, ⟨rfl, h.2⟩, Nat.le_refl _⟩
    · obtain ⟨_, m, hm, hr⟩ := h
      obtain ⟨t, ht, hl⟩ := path_tail hr ((List.mem_cons.1 hx).resolve_left (fun e2 => e e2.symm))
      exact ⟨t, ht, by simp; omega⟩
theorem path_nodup {f : Nat → Option Int} : ∀ {l : List Nat} {k : Int}, PathOf f k l → l.Nodup
  | [], _, _ => List.nodup_nil
  | i :: r, k, h => by
    obtain ⟨e, m, hm, hr⟩ := h
    refine List.nodup_cons.2 ⟨fun hin => ?_, path_nodup hr⟩
    obtain ⟨t, ht, hl⟩ := path_tail hr hin
    have h2 : PathOf f i (i :: r) := ⟨rfl, m, hm, hr⟩
    have e2 := path_one ht h2
    rw [e2] at hl
    simp at hl
    omega
theorem path_in {os : List OneM} : ∀ {l : List Nat} {k : Int}, PathOf (upO os) k l → ∀ x ∈ l, x < os.length
  | [], _, _, x, hx => by cases hx
  | i :: r, k, h, x, hx => by
    obtain ⟨e, m, hm, hr⟩ := h
    rcases List.mem_cons.1 hx with rfl | hx
    · unfold upO at hm
      cases ho : os[x]? with
      | none => rw [ho] at hm; cases hm
      | some o => exact (List.getElem?_eq_some_iff.1 ho).1
    · exact path_in hr x hx
open Classical in
theorem aboveO_eq (os : List OneM) (i j : Int) : aboveO os i j = (hasO os i && hasO os j && decide (∃ path, PathOf (upO os) i path ∧ inPath path j = true)) := by
  unfold aboveO
  congr 1
  cases hp : pathO (upO os) os.length i with
  | some path =>
    have h1 := pathO_sound hp
    show inPath path j = _
    cases h : inPath path j with
    | true => exact (decide_eq_true ⟨path, h1, h⟩).symm
    | false =>
      refine (decide_eq_false ?_).symm
      rintro ⟨p2, hp2, h2⟩
      rw [path_one hp2 h1, h] at h2; cases h2
  | none =>
    refine (decide_eq_false ?_).symm
    rintro ⟨p2, hp2, h2⟩
    have := pathO_full hp2 (c := os.length) (by
      have := List.Nodup.length_le_of_subset (path_nodup hp2) (l₂ := List.range os.length) (fun x hx => List.mem_range.2 (path_in hp2 x hx))
      simpa using this)
    rw [hp] at this; cases this
def linkE (os : List OneM) (p c b : Int) : Int :=
  if (hasO os p && hasO os c && (b == -1 || hasO os b)) = false then 6
  else if parentM (kindO os p) = false ∨ kindO os c = 0 ∨ kindO os c = 5 then 10
  else if upIO os c ≠ -1 ∨ aboveO os p c = true then 11
  else if b ≠ -1 ∧ upIO os b ≠ p then 1 else 0
def linkR (os : List OneM) (p c b : Int) : List OneM := if linkE os p c b = 0 then linkO os p.toNat c.toNat b else os
def unlinkE (os : List OneM) (c : Int) : Int := if hasO os c = false then 6 else if upIO os c = -1 then 5 else 0
def unlinkR (os : List OneM) (c : Int) : List OneM := if unlinkE os c = 0 then unlinkO os (upIO os c).toNat c.toNat else os

theorem Sim.hasM {ns : List NodeM} {os : List OneM} (h : Sim ns os) (k : Int) : hasM ns k = hasO os k := by simp [Ytlbkoafeedlfaaa.hasM, hasO, h.len]

theorem hasO_yes {os : List OneM} {k : Int} (h : hasO os k = true) : ∃ (i : Nat) (o : OneM), k = (i : Int) ∧ os[i]? = some o := by
  have h1 := of_decide_eq_true h
  exact ⟨k.toNat, os[k.toNat]'(by omega), by omega, List.getElem?_eq_getElem (by omega)⟩
theorem hasO_of {os : List OneM} {i : Nat} {o : OneM} (h : os[i]? = some o) : hasO os (i : Int) = true := by
  have := (List.getElem?_eq_some_iff.1 h).1
  exact decide_eq_true (by omega)
theorem kindO_of {os : List OneM} {i : Nat} {o : OneM} (h : os[i]? = some o) : kindO os (i : Int) = o.kind := by simp [kindO, h]
theorem upIO_of {os : List OneM} {i : Nat} {o : OneM} (h : os[i]? = some o) : upIO os (i : Int) = o.up := by simp [upIO, h]
theorem kidsO_of {os : List OneM} {i : Nat} {o : OneM} (h : os[i]? = some o) : kidsO os (i : Int) = o.kids := by simp [kidsO, h, hasO_of h]

open Classical in
theorem aboveO_of {os : List OneM} {i : Nat} {o : OneM} (ho : os[i]? = some o) {j : Int} (hj : hasO os j = true) {path : List Nat} (hp : PathOf (upO os) i path) : aboveO os i j = inPath path j := by
  rw [aboveO_eq]
  rw [hasO_of ho, hj]
  simp only [Bool.and_self, Bool.true_and]
  cases h : inPath path j with
  | true => exact decide_eq_true ⟨path, hp, h⟩
  | false =>
    refine decide_eq_false ?_
    rintro ⟨p2, hp2, h2⟩
    rw [path_one hp2 hp, h] at h2; cases h2

theorem mayM_eq {ns : List NodeM} {os : List OneM} (h : Sim ns os) {p c : Nat} {np nc : NodeM} (hp : ns[p]? = some np) (hc : ns[c]? = some nc) {b : Int} (hb : b = -1 ∨ hasO os b = true) {path : List Nat} (hpath : PathOf (upO os) p path) : mayM ns p np c nc b path = linkE os p c b := by
  obtain ⟨op, hop, smp⟩ := h.getO hp
  obtain ⟨oc, hoc, smc⟩ := h.getO hc
  unfold mayM linkE
  have e0 : ¬ ((hasO os p && hasO os c && (b == -1 || hasO os b)) = false) := by
    rw [hasO_of hop, hasO_of hoc]
    rcases hb with rfl | hb
    · simp
    · simp [hb]
  rw [if_neg e0, kindO_of hop, kindO_of hoc, upIO_of hoc, h.covers hc hpath, aboveO_of hop (hasO_of hoc) hpath, smp.kind, smc.kind, smc.up]
  have e1 : (b ≠ -1 ∧ (ns[b.toNat]?).map (·.parent) ≠ some (p : Int)) ↔ (b ≠ -1 ∧ upIO os b ≠ (p : Int)) := by
    constructor
    · rintro ⟨h1, h2⟩
      refine ⟨h1, fun e => h2 ?_⟩
      obtain ⟨i, o, rfl, ho⟩ := hasO_yes (hb.resolve_left h1)
      obtain ⟨n, hn, sm⟩ := h.get ho
      rw [upIO_of ho] at e
      simp [hn, sm.up, e]
    · rintro ⟨h1, h2⟩
      refine ⟨h1, fun e => h2 ?_⟩
      obtain ⟨i, o, rfl, ho⟩ := hasO_yes (hb.resolve_left h1)
      obtain ⟨n, hn, sm⟩ := h.get ho
      rw [upIO_of ho]
      simp [hn, sm.up] at e
      exact e
  simp only [e1]

theorem hasO_okK {ns : List NodeM} {os : List OneM} (h : Sim ns os) {b : Int} (hb : b = -1 ∨ hasO os b = true) : okK ns b := by
  rcases hb with rfl | hb
  · exact .inl rfl
  · obtain ⟨i, o, rfl, ho⟩ := hasO_yes hb
    exact .inr ⟨i, rfl, by rw [h.len]; exact (List.getElem?_eq_some_iff.1 ho).1⟩

theorem link_sim {w : World} {base bA : Nat} {ns : List NodeM} {os : List OneM} {F : Nat → Prop} (ha : ArS w base bA ns F) (hs : Sim ns os) (p c b : Int) :
    Calls Try.prog 35 #[.pointer (some ⟨bA, 0, none⟩), .int .i64 p, .int .i64 c, .int .i64 b] w fun e w' => e = .returned (.int .i64 (linkE os p c b)) ∧ ∃ ms, Upd F w w' base bA ms ∧ Sim ms (linkR os p c b) := by
  have ha' := ha
  obtain ⟨bS, g, cap, h, hF⟩ := ha
  by_cases hno : (hasO os p && hasO os c && (b == -1 || hasO os b)) = false
  · have e6 : linkE os p c b = 6 := by rw [linkE, if_pos hno]
    have hr : linkR os p c b = os := by rw [linkR, e6, if_neg (by decide)]
    rw [e6, hr]
    have hm := mayLink_none h p c b (by rw [hs.hasM, hs.hasM, hs.hasM]; exact hno)
    refine (link_err p c b 6 (by decide) (hm.mono fun e w' ⟨h1, h2⟩ => ⟨h1, h2 ▸ Below.refl _ _⟩) h).mono fun e w' ⟨h1, h2⟩ => ⟨h1, ns, ha'.upd h2, hs⟩
  · have hno' : hasO os p = true ∧ hasO os c = true ∧ (b = -1 ∨ hasO os b = true) := by
      have := hno
      simp only [Bool.not_eq_false, Bool.and_eq_true, Bool.or_eq_true, beq_iff_eq] at this
      exact ⟨this.1.1, this.1.2, this.2⟩
    obtain ⟨hp, hc, hb⟩ := hno'
    obtain ⟨pi, op, rfl, hop⟩ := hasO_yes hp
    obtain ⟨ci, oc, rfl, hoc⟩ := hasO_yes hc
    obtain ⟨np, hnp, smp⟩ := hs.get hop
    obtain ⟨nc, hnc, smc⟩ := hs.get hoc
    obtain ⟨path, hpath⟩ := hs.ends pi (List.getElem?_eq_some_iff.1 hop).1
    have hpath' : PathOf (upF ns) pi path := by rw [hs.upF]; exact hpath
    have hbk := hasO_okK hs hb
    have hm := mayLink_in h pi np hnp ci nc hnc b hbk path hpath'
    have hme := mayM_eq hs hnp hnc hb hpath
    rw [hme] at hm
    by_cases e0 : linkE os pi ci b = 0
    · have hr : linkR os pi ci b = linkO os pi ci b := by rw [linkR, if_pos e0]; simp
      rw [e0, hr]
      have e0' := e0
      unfold linkE at e0'
      rw [if_neg hno] at e0'
      split at e0'
      · cases e0'
      · rename_i k1
        split at e0'
        · cases e0'
        · rename_i k2
          split at e0'
          · cases e0'
          · rename_i k3
            rw [kindO_of hop, kindO_of hoc] at k1
            rw [upIO_of hoc, aboveO_of hop (hasO_of hoc) hpath] at k2
            have hup : oc.up = -1 := Decidable.byContradiction fun e => k2 (.inl e)
            have hnot : ci ∉ path := fun e => k2 (.inr (mem_inPath.2 e))
            have hmem : b = -1 ∨ ∃ x ∈ op.kids, b = (x : Int) := by
              rcases hb with hb | hb
              · exact .inl hb
              · by_cases hb1 : b = -1
                · exact .inl hb1
                · obtain ⟨bi, ob, rfl, hob⟩ := hasO_yes hb
                  have hub : ob.up = (pi : Int) := Decidable.byContradiction fun e => k3 ⟨hb1, by rw [upIO_of hob]; exact e⟩
                  rcases hs.up bi ob hob with e | ⟨q, m, e, hqm, hi⟩
                  · omega
                  · have : q = pi := by omega
                    subst this
                    rw [hop] at hqm; cases hqm
                    exact .inr ⟨bi, hi, rfl⟩
            have hsim := hs.link hnp hop hoc hup (fun e => k1 (.inr (.inl e))) (fun e => k1 (.inr (.inr e))) hmem hpath hnot
            obtain ⟨A, B, hAB, _, hhead⟩ := insO_cut (hs.kids pi op hop).nodup hmem ci
            have hpv := hs.prev hnp hop hAB
            rw [hhead] at hpv
            refine (link_ok h pi np hnp ci nc hnc b hbk path hpath' (hme.trans e0) (by rw [hpv.1]; exact hpv.2.1)).mono fun e w' ⟨h1, h2, h3⟩ => ⟨h1, _, upd_of_mod hF h2 h3 (fun k hk => foot_link _ _ _ _ _ k hk), hsim⟩
    · have hr : linkR os pi ci b = os := by rw [linkR, if_neg e0]
      rw [hr]
      exact (link_err pi ci b _ e0 hm h).mono fun e w' ⟨h1, h2⟩ => ⟨h1, ns, ha'.upd h2, hs⟩

theorem unlink_sim {w : World} {base bA : Nat} {ns : List NodeM} {os : List OneM} {F : Nat → Prop} (ha : ArS w base bA ns F) (hs : Sim ns os) (c : Int) :
    Calls Try.prog 39 #[.pointer (some ⟨bA, 0, none⟩), .int .i64 c] w fun e w' => e = .returned (.int .i64 (unlinkE os c)) ∧ ∃ ms, Upd F w w' base bA ms ∧ Sim ms (unlinkR os c) := by
  have ha' := ha
  obtain ⟨bS, g, cap, h, hF⟩ := ha
  cases hh : hasO os c with
  | false =>
    have e6 : unlinkE os c = 6 := by rw [unlinkE, if_pos hh]
    have hr : unlinkR os c = os := by rw [unlinkR, e6, if_neg (by decide)]
    rw [e6, hr]
    exact (unlink_none h c (by rw [hs.hasM]; exact hh)).mono fun e w' ⟨h1, h2⟩ => ⟨h1, ns, ha'.upd (h2 ▸ Below.refl _ _), hs⟩
  | true =>
    obtain ⟨ci, oc, rfl, hoc⟩ := hasO_yes hh
    obtain ⟨nc, hnc, smc⟩ := hs.get hoc
    by_cases hu : oc.up = -1
    · have e5 : unlinkE os ci = 5 := by rw [unlinkE, if_neg (by rw [hh]; decide), upIO_of hoc, if_pos hu]
      have hr : unlinkR os ci = os := by rw [unlinkR, e5, if_neg (by decide)]
      rw [e5, hr]
      exact (unlink_free h ci nc hnc (by rw [smc.up]; exact hu)).mono fun e w' ⟨h1, h2⟩ => ⟨h1, ns, ha'.upd (h2 ▸ Below.refl _ _), hs⟩
    · have e0 : unlinkE os ci = 0 := by rw [unlinkE, if_neg (by rw [hh]; decide), upIO_of hoc, if_neg hu]
      obtain ⟨p, op, A, B, hup, hop, hk⟩ := hs.cut hoc hu
      have hr : unlinkR os ci = unlinkO os p ci := by rw [unlinkR, if_pos e0, upIO_of hoc, hup]; simp
      rw [e0, hr]
      obtain ⟨_, _, ok1, ok2⟩ := hs.nbrs hnc hop hk
      refine (unlink_ok h ci nc hnc p (by rw [smc.up]; exact hup) (by rw [hs.len]; exact (List.getElem?_eq_some_iff.1 hop).1) ok1 ok2).mono fun e w' ⟨h1, h2, h3⟩ => ⟨h1, _, upd_of_mod hF h2 h3 (fun k hk => foot_unlink _ _ _ k hk), hs.unlink hnc hop hoc hup hk⟩

theorem above_sim {w : World} {base bA : Nat} {ns : List NodeM} {os : List OneM} {F : Nat → Prop} (ha : ArS w base bA ns F) (hs : Sim ns os) (i j : Int) :
    Calls Try.prog 20 #[.pointer (some ⟨bA, 0, none⟩), .int .i64 i, .int .i64 j] w fun e w' => e = .returned (.bool (aboveO os i j)) ∧ Below w.heap.size w w' := by
  obtain ⟨bS, g, cap, h, hF⟩ := ha
  cases hh : (hasO os i && hasO os j) with
  | false =>
    have e : aboveO os i j = false := by rw [aboveO_eq]; rw [hh]; rfl
    rw [e]
    exact above_no h i j (by rw [hs.hasM, hs.hasM]; exact hh)
  | true =>
    rw [Bool.and_eq_true] at hh
    obtain ⟨ii, oi, rfl, hoi⟩ := hasO_yes hh.1
    obtain ⟨path, hpath⟩ := hs.ends ii (List.getElem?_eq_some_iff.1 hoi).1
    rw [aboveO_of hoi hh.2 hpath]
    exact above_yes h ii (by rw [hs.len]; exact (List.getElem?_eq_some_iff.1 hoi).1) j path (by rw [hs.upF]; exact hpath)

set_option maxHeartbeats 400000 in
theorem kids_no {w : World} {base bA bS g cap : Nat} {ns : List NodeM} (h : Ar w base bA bS g cap ns) (k : Int) (hk : hasM ns k = false) :
    Calls Try.prog 19 #[.pointer (some ⟨bA, 0, none⟩), .int .i64 k] w fun e w' => e = .returned (.slice none 0 0) ∧ Below w.heap.size w w' := by
  have HH := hide (fun w' hb => has_any (h.below hb) k (w := w'))
  rw [hk] at HH
  clear h hk
  go_enter Try.func19, Try.ntmps19
  go_wp2_with (go_at_call 54; refine ((unhide HH) _ (by first | exact Below.refl _ _ | exact (Below.refl _ _).alloc (Nat.le_refl _) _)).mono ?_; rintro e w' ⟨rfl, rfl⟩)
  go_ret
  exact ⟨rfl, by first | exact Below.refl _ _ | exact (Below.refl _ _).alloc (Nat.le_refl _) _⟩

theorem kids_sim {w : World} {base bA : Nat} {ns : List NodeM} {os : List OneM} {F : Nat → Prop} (ha : ArS w base bA ns F) (hs : Sim ns os) (k : Int) :
    Calls Try.prog 19 #[.pointer (some ⟨bA, 0, none⟩), .int .i64 k] w fun e w' => ∃ v, e = .returned v ∧ w'.ownsRow w.heap.size 3 1 v (kidsO os k).length (intsV (kidsO os k)) ∧ Below w.heap.size w w' := by
  obtain ⟨bS, g, cap, h, hF⟩ := ha
  cases hh : hasO os k with
  | false =>
    refine (kids_no h k (by rw [hs.hasM]; exact hh)).mono fun e w' ⟨h1, h2⟩ => ⟨_, h1, ?_, h2⟩
    have e : kidsO os k = [] := by simp [kidsO, hh]
    rw [e]
    exact World.ownsRow_nil _ _ _ _
  | true =>
    obtain ⟨i, o, rfl, ho⟩ := hasO_yes hh
    obtain ⟨n, hn, sm⟩ := hs.get ho
    rw [kidsO_of ho]
    have hK := hs.kids i o ho
    have hlen : o.kids.length ≤ 32768 := by
      have h1 : o.kids.length ≤ ns.length := by
        have := List.Nodup.length_le_of_subset hK.nodup (l₂ := List.range ns.length) (fun x hx => List.mem_range.2 (hK.mem x hx))
        simpa using this
      have := h.most; omega
    exact callsIn_wide.1 (kids_in h i n hn o.kids (hK.path hn) hlen)
end Go.Proofs.Ytlbkoafeedlfaaa
