import Derived.Test.YtmllhebmaldgfaaQRh
import Derived.Test.YtmllhebmaldgfaaQOa
/-
  The document's stack: PopTo, Scope and NodeScope over any border.
-/
namespace Go.Proofs.Ytmllhebmaldgfaa
open Go.RowKit

section
variable {w : World} {base bW bR : Nat} {ks : List Key} {L : List Int} {F FA : Nat → Prop} {p : PartM}

/-- The list cut at a place, laid into the stack. -/
theorem RstAt.cutAt (h : RstAt w base bW bR p) (hF : ∀ k, F k ↔ footW bW p k) (m : Nat) (hm : m ≤ p.xs.length) (n : Nat) : UpdW F w ((w.drewN n).setCell ⟨bW, 1, none⟩ (.slice p.a m p.cap)) base bW bR (p.xs.take m) := by
  have hcut := h.part.cut m hm
  have B := below_dn (Below.refl w.heap.size w) n
  have := h.done hF (w1 := w.drewN n) (L := p.xs.take m) (Mod.of_below B) (hcut.below B) rfl (fun k hk => .inl hk)
  unfold PartM.val at this
  simp only [List.length_take] at this
  rw [show min m p.xs.length = m by omega] at this
  exact this

set_option maxHeartbeats 4000000 in
theorem rPopTo_any (ha : RfK w base bR ks FA) (hs : RstS w base bW bR L F) (hg : Good ks L) (name : ByteArray) :
    Calls Try.prog 50 #[.pointer (some ⟨bW, 0, none⟩), .string name] w fun e w' => e = .returned (.bool (popToI ks L name).isSome) ∧ UpdW F w w' base bW bR (popToL ks L name) := by
  have hlv := LiveR.mk' ha hs
  have hl := hlv.few hg
  have HS := hide hs
  obtain ⟨p, h, rfl, hF⟩ := hs
  have HFIN : Hid (∀ i, popToI ks p.xs name = some i → popToL ks p.xs name = p.xs.take i) := hide (fun i hi => by unfold popToL; rw [hi])
  have HFIN0 : Hid (popToI ks p.xs name = none → popToL ks p.xs name = p.xs) := hide (fun hi => by unfold popToL; rw [hi])
  have HN : Hid (∀ x, x ∈ p.xs → Calls Try.prog 103 #[.pointer (some ⟨bW, 0, none⟩), .int .i64 x, .string name] w fun e w' => e = .returned (.bool (namedM (calOf ks x) name)) ∧ w = w') := hide (fun x hx => by
    have := rNamed_any hlv x name
    rw [hg.cal hx] at this
    simpa using this)
  have HP : Hid (NumsIn w p.a p.xs) := hide h.part.nums
  have HCUT := hide (fun m hm n => h.cutAt hF m hm n)
  obtain ⟨c0, c1, cf⟩ := h.cells
  have f1 := cf 1
  have hcap := h.part.len
  have hmost := h.part.most
  unfold PartM.val at c1
  have hlz : (p.xs.length : Int) ≤ 32768 := by omega
  have hcz : (p.xs.length : Int) ≤ (p.cap : Int) := by omega
  have hcm : (p.cap : Int) ≤ 9223372036854775807 := by unfold maxLen at hmost; omega
  obtain ⟨pa, pc, px⟩ := p
  simp only at *
  clear ha hg h hF hl hlv cf hcap hmost
  go_enter Try.func50, Try.ntmps50
  go_wp2
  go_loopg [5] px.length (fun g s5 wr => s5 = .int .i64 ((g : Int) - 1) ∧ g ≤ px.length ∧ wr = w ∧ popToI ks px name = lastI (fun id => namedM (calOf ks id) name) px g)
  case atStart => exact ⟨rfl, Nat.le_refl _, rfl, rfl⟩
  case round =>
    obtain ⟨rfl, hgl, rfl, hrec⟩ := hrel
    have HR := hide hrec
    clear hrec
    cases gk with
    | zero =>
      go_wp2
      go_ret
      have e0 : popToI ks px name = none := unhide HR
      exact ⟨by rw [e0]; rfl, by rw [(unhide HFIN0) e0]; exact (unhide HS).upd (Below.refl _ _)⟩
    | succ n =>
      obtain ⟨x, hx⟩ : ∃ x, px[n]? = some x := ⟨_, List.getElem?_eq_getElem (by omega)⟩
      have HNX := hide ((unhide HN) x (List.mem_of_getElem? hx))
      obtain ⟨g, off, rfl, hcell⟩ := (unhide HP) n x hx
      have e1 : (((n + 1 : Nat) : Int) - 1) = (n : Int) := by omega
      rw [e1]
      have HRC : Hid (lastI (fun id => namedM (calOf ks id) name) px (n + 1) = if namedM (calOf ks x) name then some n else lastI (fun id => namedM (calOf ks id) name) px n) := hide (by rw [lastI, hx])
      have hn0 : (0 : Int) ≤ (n : Int) := by omega
      have hnz : (n : Int) < (px.length : Int) := by omega
      have hnc : (n : Int) ≤ (pc : Int) := by omega
      have HNL : Hid (n ≤ px.length) := hide (by omega)
      clear hx e1
      cases hwx : namedM (calOf ks x) name with
      | true =>
        rw [hwx] at HRC HNX
        clear hwx
        go_wp2_with (go_at_call 103; refine (unhide HNX).mono ?_; rintro e w1 ⟨rfl, rfl⟩)
        try go_region
        all_goals go_wp2
        all_goals go_ret
        all_goals have e0 : popToI ks px name = some n := (unhide HR).trans (unhide HRC)
        all_goals exact ⟨by rw [e0]; rfl, by rw [(unhide HFIN) n e0]; first | exact (unhide HCUT) n (unhide HNL) _ | exact (unhide HCUT) n (unhide HNL) 0⟩
      | false =>
        rw [hwx] at HRC HNX
        clear hwx
        go_wp2_with (go_at_call 103; refine (unhide HNX).mono ?_; rintro e w1 ⟨rfl, rfl⟩)
        go_roundg n
        case measure => omega
        case rel => exact ⟨by go_num, by omega, rfl, (unhide HR).trans (unhide HRC)⟩
end
end Go.Proofs.Ytmllhebmaldgfaa
/-
  The document's stack: Thorough, Implied.
-/
namespace Go.Proofs.Ytmllhebmaldgfaa
open Go.RowKit

def thoT : List ByteArray := [⟨#[99, 97, 112, 116, 105, 111, 110]⟩, ⟨#[99, 111, 108, 103, 114, 111, 117, 112]⟩, ⟨#[100, 100]⟩, ⟨#[100, 116]⟩, ⟨#[108, 105]⟩, ⟨#[111, 112, 116, 103, 114, 111, 117, 112]⟩, ⟨#[111, 112, 116, 105, 111, 110]⟩, ⟨#[112]⟩, ⟨#[114, 98]⟩, ⟨#[114, 112]⟩, ⟨#[114, 116]⟩, ⟨#[114, 116, 99]⟩, ⟨#[116, 98, 111, 100, 121]⟩, ⟨#[116, 100]⟩, ⟨#[116, 102, 111, 111, 116]⟩, ⟨#[116, 104]⟩, ⟨#[116, 104, 101, 97, 100]⟩, ⟨#[116, 114]⟩]
theorem tho_eq (c : Cal) : amongM c 0 thoT = thorM c := by
  unfold thorM amongM hasT thoT impT partT
  cases c.space == 0
  · rfl
  · simp only [List.any_cons, List.any_nil, Bool.or_false, Bool.true_and]
    ac_rfl

section
variable {w : World} {base bW bR : Nat} {ks : List Key} {L : List Int} {F FA : Nat → Prop} {p : PartM}

theorem UpdW.chain {w1 w' : World} {L2 : List Int} (h : UpdW F w w1 base bW bR L) (h2 : ∀ F', RstS w1 base bW bR L F' → UpdW F' w1 w' base bW bR L2) : UpdW F w w' base bW bR L2 := by
  obtain ⟨F', hst, hmod, hfoot⟩ := h
  obtain ⟨F2, g1, g2, g3⟩ := h2 F' hst
  refine ⟨F2, g1, hmod.then g2 hfoot, fun k hk => ?_⟩
  rcases g3 k hk with e | e
  · exact hfoot k e
  · exact .inr (Nat.le_trans hmod.size e)

theorem elOf_neg (ks : List Key) : elOf ks (-1) = none := elOf_none (by unfold keyAt; rw [if_neg (by omega)])
/-- What stands on top of a list cut at n + 1, and the list without it. -/
theorem top_take {n : Nat} {x : Int} (hx : L[n]? = some x) (hn : n + 1 ≤ L.length) : topM (L.take (n + 1)) = x ∧ popL (L.take (n + 1)) = L.take n := by
  have hlen : (L.take (n + 1)).length = n + 1 := by simp; omega
  constructor
  · unfold topM
    rw [hlen]
    have hx2 : (L.take (n + 1))[n]? = some x := by rw [List.getElem?_take, if_pos (by omega)]; exact hx
    have := atM_in hx2
    rw [show (((n + 1 : Nat) : Int) - 1) = (n : Int) by omega]
    exact this
  · unfold popL
    rw [hlen, List.take_take]
    congr 1
    omega

set_option maxHeartbeats 4000000 in
theorem rThorough_any (ha : RfK w base bR ks FA) (hs : RstS w base bW bR L F) (hd : ∀ k, FA k → ¬ F k) (hg : Good ks L) :
    Calls Try.prog 52 #[.pointer (some ⟨bW, 0, none⟩)] w fun e w' => e = .returned (.int .i64 ((L.length : Int) - (thorN ks L : Int))) ∧ UpdW F w w' base bW bR (L.take (thorN ks L)) := by
  unfold thorN
  have hl := (LiveR.mk' ha hs).few hg
  have HA := hide ha
  have HS := hide hs
  have HD := hide hd
  have HG := hide hg
  have hlz : (L.length : Int) ≤ 32768 := by omega
  have HLL := hide hl
  clear ha hs hd hg hl
  go_enter Try.func52, Try.ntmps52
  go_wp2
  go_loopg [3] L.length (fun g s3 wr => s3 = .int .i64 ((L.length : Int) - (g : Int)) ∧ g ≤ L.length ∧ UpdW F w wr base bW bR (L.take g) ∧ leaveN (fun id => thorM (calOf ks id)) L L.length = leaveN (fun id => thorM (calOf ks id)) L g)
  case atStart => exact ⟨by simp, Nat.le_refl _, by rw [List.take_length]; exact (unhide HS).upd (Below.refl _ _), rfl⟩
  case round =>
    obtain ⟨rfl, hgl, hu, hrec⟩ := hrel
    have HU := hide hu
    have HR := hide hrec
    obtain ⟨F', hst, hmod, hfoot⟩ := hu
    have har := (unhide HA).mod hmod (unhide HD)
    have hlen : (L.take gk).length = gk := by simp; omega
    have hlv := LiveR.mk' har hst
    have HT : Hid (∀ w1, Below wr.heap.size wr w1 → Calls Try.prog 59 #[.pointer (some ⟨bW, 0, none⟩)] w1 fun e w' => e = .returned (.int .i64 (topM (L.take gk))) ∧ w1 = w') := hide (fun w1 hb => rTop_any (hst.below hb) (by rw [hlen]; have := unhide HLL; omega))
    have HO : Hid (∀ x w1 b, Below wr.heap.size wr w1 → TabAt w1 b thoT → Calls Try.prog 90 #[.pointer (some ⟨bW, 0, none⟩), .int .i64 x, .slice (some ⟨b, 0, none⟩) 18 18] w1 fun e w' => e = .returned (.bool ((elOf ks x).isSome && thorM (calOf ks x))) ∧ Below wr.heap.size wr w') := hide (fun x w1 b hb ht => by
      refine (rOf_any (hlv.below hb) x thoT (by decide) b ht).mono ?_
      rintro e w' ⟨rfl, rfl⟩
      rw [tho_eq]
      exact ⟨rfl, hb⟩)
    clear hrec
    cases gk with
    | zero =>
      have et : topM (L.take 0) = -1 := by rw [List.take_zero]; rfl
      have HO2 := hide ((unhide HO) (-1))
      rw [et] at HT
      rw [elOf_neg] at HO2
      clear hst hmod hfoot har hlen et HO hlv
      go_wp2_with (first | (go_at_call 59; refine ((unhide HT) _ (by first | exact Below.refl _ _ | exact below_new _ _ | exact (Below.refl _ _).drew | exact below_dn (Below.refl _ _) _ | exact (below_new _ _).drew | exact below_dn (below_new _ _) _ | exact ((Below.refl _ _).drew.alloc ((Below.refl _ _).drew).size _) | exact ((below_dn (Below.refl _ _) _).alloc (below_dn (Below.refl _ _) _).size _))).mono ?_; rintro e w1 ⟨rfl, rfl⟩) | (go_at_call 90; refine ((unhide HO2) _ _ (by first | exact Below.refl _ _ | exact below_new _ _ | exact (Below.refl _ _).drew | exact below_dn (Below.refl _ _) _ | exact (below_new _ _).drew | exact below_dn (below_new _ _) _ | exact ((Below.refl _ _).drew.alloc ((Below.refl _ _).drew).size _) | exact ((below_dn (Below.refl _ _) _).alloc (below_dn (Below.refl _ _) _).size _)) (by first | exact tab_new wr thoT _ | exact (tab_new wr thoT _).below ((Below.refl _ _).drew) | exact (tab_new wr thoT _).below (below_dn (Below.refl _ _) _) | exact tab_new (wr.drewN _) thoT _)).mono ?_; rintro e w2 ⟨rfl, hb⟩; have HB2 := hide hb; clear hb))
      all_goals go_wp2
      all_goals go_ret
      all_goals have e0 : leaveN (fun id => thorM (calOf ks id)) L L.length = 0 := unhide HR
      all_goals rw [e0]
      all_goals exact ⟨by simp, (unhide HU).then (unhide HB2)⟩
    | succ n =>
      obtain ⟨x, hx⟩ : ∃ x, L[n]? = some x := ⟨_, List.getElem?_eq_getElem (by omega)⟩
      have hxm : x ∈ L := List.mem_of_getElem? hx
      obtain ⟨et, ep⟩ := top_take hx hgl
      have HO2 := hide ((unhide HO) x)
      rw [et] at HT
      rw [(unhide HG).cal hxm] at HO2
      have HPOP : Hid (∀ w1, Below wr.heap.size wr w1 → Calls Try.prog 40 #[.pointer (some ⟨bW, 0, none⟩)] w1 fun e w' => e = .returned (.int .i64 x) ∧ UpdW F w w' base bW bR (L.take n)) := hide (fun w1 hb => by
        refine (rPop_any (hst.below hb) (by rw [hlen]; have := unhide HLL; omega)).mono ?_
        rintro e w' ⟨rfl, hu2⟩
        rw [ep] at hu2
        refine ⟨by rw [et], ?_⟩
        obtain ⟨F2, g1, g2, g3⟩ := hu2
        refine ⟨F2, g1, (hmod.trans (Mod.of_below hb)).then g2 hfoot, fun k hk => ?_⟩
        rcases g3 k hk with e | e
        · exact hfoot k e
        · exact .inr (Nat.le_trans hmod.size (Nat.le_trans hb.size e)))
      have HRC : Hid (leaveN (fun id => thorM (calOf ks id)) L (n + 1) = if thorM (calOf ks x) then leaveN (fun id => thorM (calOf ks id)) L n else n + 1) := hide (by rw [leaveN, hx])
      have hnz : (n : Int) + 1 ≤ 32768 := by omega
      have hnl : ((n + 1 : Nat) : Int) ≤ (L.length : Int) := by omega
      clear hst hmod hfoot har hlen hx hxm et ep HO hlv
      cases hwx : thorM (calOf ks x) with
      | true =>
        rw [hwx] at HRC HO2
        clear hwx
        go_wp2_with (first | (go_at_call 59; refine ((unhide HT) _ (by first | exact Below.refl _ _ | exact below_new _ _ | exact (Below.refl _ _).drew | exact below_dn (Below.refl _ _) _ | exact (below_new _ _).drew | exact below_dn (below_new _ _) _ | exact ((Below.refl _ _).drew.alloc ((Below.refl _ _).drew).size _) | exact ((below_dn (Below.refl _ _) _).alloc (below_dn (Below.refl _ _) _).size _))).mono ?_; rintro e w1 ⟨rfl, rfl⟩) | (go_at_call 90; refine ((unhide HO2) _ _ (by first | exact Below.refl _ _ | exact below_new _ _ | exact (Below.refl _ _).drew | exact below_dn (Below.refl _ _) _ | exact (below_new _ _).drew | exact below_dn (below_new _ _) _ | exact ((Below.refl _ _).drew.alloc ((Below.refl _ _).drew).size _) | exact ((below_dn (Below.refl _ _) _).alloc (below_dn (Below.refl _ _) _).size _)) (by first | exact tab_new wr thoT _ | exact (tab_new wr thoT _).below ((Below.refl _ _).drew) | exact (tab_new wr thoT _).below (below_dn (Below.refl _ _) _) | exact tab_new (wr.drewN _) thoT _)).mono ?_; rintro e w2 ⟨rfl, hb⟩; have HB2 := hide hb; clear hb))
        all_goals go_wp2_with (go_at_call 40; refine ((unhide HPOP) _ (unhide HB2)).mono ?_; rintro e w4 ⟨rfl, hu⟩; have HU4 := hide hu; clear hu)
        all_goals go_roundg n
        all_goals first | (refine ⟨by go_num, by omega, unhide HU4, (unhide HR).trans (unhide HRC)⟩) | omega
      | false =>
        rw [hwx] at HRC HO2
        clear hwx
        go_wp2_with (first | (go_at_call 59; refine ((unhide HT) _ (by first | exact Below.refl _ _ | exact below_new _ _ | exact (Below.refl _ _).drew | exact below_dn (Below.refl _ _) _ | exact (below_new _ _).drew | exact below_dn (below_new _ _) _ | exact ((Below.refl _ _).drew.alloc ((Below.refl _ _).drew).size _) | exact ((below_dn (Below.refl _ _) _).alloc (below_dn (Below.refl _ _) _).size _))).mono ?_; rintro e w1 ⟨rfl, rfl⟩) | (go_at_call 90; refine ((unhide HO2) _ _ (by first | exact Below.refl _ _ | exact below_new _ _ | exact (Below.refl _ _).drew | exact below_dn (Below.refl _ _) _ | exact (below_new _ _).drew | exact below_dn (below_new _ _) _ | exact ((Below.refl _ _).drew.alloc ((Below.refl _ _).drew).size _) | exact ((below_dn (Below.refl _ _) _).alloc (below_dn (Below.refl _ _) _).size _)) (by first | exact tab_new wr thoT _ | exact (tab_new wr thoT _).below ((Below.refl _ _).drew) | exact (tab_new wr thoT _).below (below_dn (Below.refl _ _) _) | exact tab_new (wr.drewN _) thoT _)).mono ?_; rintro e w2 ⟨rfl, hb⟩; have HB2 := hide hb; clear hb))
        all_goals go_wp2
        all_goals go_ret
        all_goals have e0 : leaveN (fun id => thorM (calOf ks id)) L L.length = n + 1 := (unhide HR).trans (unhide HRC)
        all_goals rw [e0]
        all_goals exact ⟨by simp, (unhide HU).then (unhide HB2)⟩
end
end Go.Proofs.Ytmllhebmaldgfaa
/-
  The document's stack: Scope and NodeScope, over whatever answers for the borders.
-/
namespace Go.Proofs.Ytmllhebmaldgfaa
open Go.RowKit

section
variable {w : World} {base bW bR : Nat} {ks : List Key} {L : List Int} {F FA : Nat → Prop} {p : PartM}

/-- Whatever answers for the borders of a kind. -/
def BordIs (w : World) (bW : Nat) (ks : List Key) (L : List Int) (kind : Int) : Prop := ∀ x, x ∈ L → ∀ w1, Below w.heap.size w w1 → Calls Try.prog 104 #[.pointer (some ⟨bW, 0, none⟩), .int .i64 x, .int .i64 kind] w1 fun e w' => e = .returned (.bool (borderM (calOf ks x) kind)) ∧ Below w1.heap.size w1 w'

set_option maxHeartbeats 4000000 in
theorem rScope_in (ha : RfK w base bR ks FA) (hs : RstS w base bW bR L F) (hg : Good ks L) (name : ByteArray) (kind : Int) (h0 : 0 ≤ kind) (h4 : kind ≤ 4) (hbd : BordIs w bW ks L kind) :
    Calls Try.prog 47 #[.pointer (some ⟨bW, 0, none⟩), .string name, .int .i64 kind] w fun e w' => e = .returned (.bool (reachI (fun id => namedM (calOf ks id) name) (fun id => borderM (calOf ks id) kind) L L.length)) ∧ Below w.heap.size w w' := by
  have hlv := LiveR.mk' ha hs
  have hl := hlv.few hg
  have HG := hide hg
  have HLV := hide hlv
  have HBD := hide hbd
  obtain ⟨p, h, rfl, hF⟩ := hs
  have HH := hide h
  have hcz := (h.cells).2.1
  unfold PartM.val at hcz
  have hlz : (p.xs.length : Int) ≤ 32768 := by omega
  have hk1 : (0 : Int) ≤ kind := h0
  have hk2 : kind ≤ 4 := h4
  clear ha hg h hF hl hlv hbd h0 h4
  go_enter Try.func47, Try.ntmps47
  go_wp2
  go_loopg [7] p.xs.length (fun g s7 wr => s7 = .int .i64 ((g : Int) - 1) ∧ g ≤ p.xs.length ∧ Below w.heap.size w wr ∧ reachI (fun id => namedM (calOf ks id) name) (fun id => borderM (calOf ks id) kind) p.xs p.xs.length = reachI (fun id => namedM (calOf ks id) name) (fun id => borderM (calOf ks id) kind) p.xs g)
  case atStart => exact ⟨rfl, Nat.le_refl _, Below.refl _ _, rfl⟩
  case round =>
    obtain ⟨rfl, hgl, hb, hrec⟩ := hrel
    have HB := hide hb
    have HR := hide hrec
    clear hrec hcz
    cases gk with
    | zero =>
      clear hb
      go_wp2
      go_ret
      exact ⟨by rw [unhide HR]; rfl, unhide HB⟩
    | succ n =>
      obtain ⟨x, hx⟩ : ∃ x, p.xs[n]? = some x := ⟨_, List.getElem?_eq_getElem (by omega)⟩
      have hxm := List.mem_of_getElem? hx
      obtain ⟨g, off, hpa, hcell⟩ := ((unhide HH).below hb).part.nums n x hx
      have hcz := ((unhide HH).below hb).cells.2.1
      unfold PartM.val at hcz
      rw [hpa] at hcz
      clear hpa
      have HBX := hide ((unhide HBD) x hxm wr hb)
      have HNX : Hid (Calls Try.prog 103 #[.pointer (some ⟨bW, 0, none⟩), .int .i64 x, .string name] wr fun e w' => e = .returned (.bool (namedM (calOf ks x) name)) ∧ wr = w') := hide (by
        have := rNamed_any ((unhide HLV).below hb) x name
        rw [(unhide HG).cal hxm] at this
        simpa using this)
      have e1 : (((n + 1 : Nat) : Int) - 1) = (n : Int) := by omega
      rw [e1]
      have HRC : Hid (reachI (fun id => namedM (calOf ks id) name) (fun id => borderM (calOf ks id) kind) p.xs (n + 1) = if namedM (calOf ks x) name then true else if borderM (calOf ks x) kind then false else reachI (fun id => namedM (calOf ks id) name) (fun id => borderM (calOf ks id) kind) p.xs n) := hide (by rw [reachI, hx])
      have hn0 : (0 : Int) ≤ (n : Int) := by omega
      have hnz : (n : Int) < (p.xs.length : Int) := by omega
      clear hb hx e1 hxm
      cases hwx : namedM (calOf ks x) name with
      | true =>
        rw [hwx] at HRC HNX
        clear hwx
        go_wp2_with (go_at_call 103; refine (unhide HNX).mono ?_; rintro e w1 ⟨rfl, rfl⟩)
        go_ret
        exact ⟨by rw [unhide HR, unhide HRC]; rfl, unhide HB⟩
      | false =>
        rw [hwx] at HRC HNX
        clear hwx
        cases hbx : borderM (calOf ks x) kind with
        | true =>
          rw [hbx] at HRC HBX
          clear hbx
          go_wp2_with (first | (go_at_call 104; refine (unhide HBX).mono ?_; rintro e w2 ⟨rfl, hb⟩; have HB2 := hide ((unhide HB).trans (hb.mono (unhide HB).size)); clear hb) | (go_at_call 103; refine (unhide HNX).mono ?_; rintro e w1 ⟨rfl, rfl⟩))
          go_ret
          exact ⟨by rw [unhide HR, unhide HRC]; rfl, unhide HB2⟩
        | false =>
          rw [hbx] at HRC HBX
          clear hbx
          go_wp2_with (first | (go_at_call 104; refine (unhide HBX).mono ?_; rintro e w2 ⟨rfl, hb⟩; have HB2 := hide ((unhide HB).trans (hb.mono (unhide HB).size)); clear hb) | (go_at_call 103; refine (unhide HNX).mono ?_; rintro e w1 ⟨rfl, rfl⟩))
          go_roundg n
          case measure => omega
          case rel => exact ⟨by go_num, by omega, unhide HB2, (unhide HR).trans (unhide HRC)⟩

set_option maxHeartbeats 2000000 in
theorem rScope_out (hs : RstS w base bW bR L F) (hl : L.length ≤ 32768) (name : ByteArray) (kind : Int) (hk : kind < 0 ∨ 4 < kind) :
    Calls Try.prog 47 #[.pointer (some ⟨bW, 0, none⟩), .string name, .int .i64 kind] w fun e w' => e = .returned (.bool false) ∧ w = w' := by
  obtain ⟨p, h, rfl, hF⟩ := hs
  have c1 := (h.cells).2.1
  unfold PartM.val at c1
  have hlz : (p.xs.length : Int) ≤ 32768 := by omega
  clear h hF hl
  rcases Nat.eq_zero_or_pos p.xs.length with h0 | h0
  · rw [h0] at c1
    clear hlz h0
    go_enter Try.func47, Try.ntmps47
    go_wp2
    go_loopg [7] 0 (fun g s7 wr => s7 = .int .i64 (-1) ∧ wr = w)
    case atStart => exact ⟨rfl, rfl⟩
    case round =>
      obtain ⟨rfl, rfl⟩ := hrel
      go_wp2
      go_ret
      exact ⟨rfl, rfl⟩
  · have h1 : (0 : Int) ≤ (p.xs.length : Int) - 1 := by omega
    generalize p.xs.length = n at *
    clear h0
    rcases hk with hk | hk
    · have hk' : ¬ 0 ≤ kind := by omega
      go_enter Try.func47, Try.ntmps47
      go_wp2
      go_loopg [7] 0 (fun g s7 wr => s7 = .int .i64 ((n : Int) - 1) ∧ wr = w)
      case atStart => exact ⟨rfl, rfl⟩
      case round =>
        obtain ⟨rfl, rfl⟩ := hrel
        go_wp2
        go_ret
        exact ⟨rfl, rfl⟩
    · have hk' : ¬ kind ≤ 4 := by omega
      have hk2 : 0 ≤ kind := by omega
      go_enter Try.func47, Try.ntmps47
      go_wp2
      go_loopg [7] 0 (fun g s7 wr => s7 = .int .i64 ((n : Int) - 1) ∧ wr = w)
      case atStart => exact ⟨rfl, rfl⟩
      case round =>
        obtain ⟨rfl, rfl⟩ := hrel
        go_wp2
        go_ret
        exact ⟨rfl, rfl⟩

theorem rScope_any (ha : RfK w base bR ks FA) (hs : RstS w base bW bR L F) (hg : Good ks L) (name : ByteArray) (kind : Int) (hbd : 0 ≤ kind → kind ≤ 4 → BordIs w bW ks L kind) :
    Calls Try.prog 47 #[.pointer (some ⟨bW, 0, none⟩), .string name, .int .i64 kind] w fun e w' => e = .returned (.bool (scopeM ks L name kind)) ∧ Below w.heap.size w w' := by
  unfold scopeM
  by_cases hk : kind < 0 ∨ 4 < kind
  · rw [if_pos hk]
    refine (rScope_out hs ((LiveR.mk' ha hs).few hg) name kind hk).mono ?_
    rintro e w' ⟨rfl, rfl⟩
    exact ⟨rfl, Below.refl _ _⟩
  · rw [if_neg hk]
    exact rScope_in ha hs hg name kind (by omega) (by omega) (hbd (by omega) (by omega))

set_option maxHeartbeats 4000000 in
theorem rNodeScope_in (ha : RfK w base bR ks FA) (hs : RstS w base bW bR L F) (hg : Good ks L) (id : Int) (kind : Int) (h0 : 0 ≤ kind) (h4 : kind ≤ 4) (hbd : BordIs w bW ks L kind) :
    Calls Try.prog 49 #[.pointer (some ⟨bW, 0, none⟩), .int .i64 id, .int .i64 kind] w fun e w' => e = .returned (.bool (reachI (fun x => x == id) (fun id => borderM (calOf ks id) kind) L L.length)) ∧ Below w.heap.size w w' := by
  have hlv := LiveR.mk' ha hs
  have hl := hlv.few hg
  have HG := hide hg
  have HLV := hide hlv
  have HBD := hide hbd
  obtain ⟨p, h, rfl, hF⟩ := hs
  have HH := hide h
  have hcz := (h.cells).2.1
  unfold PartM.val at hcz
  have hlz : (p.xs.length : Int) ≤ 32768 := by omega
  have hk1 : (0 : Int) ≤ kind := h0
  have hk2 : kind ≤ 4 := h4
  clear ha hg h hF hl hlv hbd h0 h4
  go_enter Try.func49, Try.ntmps49
  go_wp2
  go_loopg [7] p.xs.length (fun g s7 wr => s7 = .int .i64 ((g : Int) - 1) ∧ g ≤ p.xs.length ∧ Below w.heap.size w wr ∧ reachI (fun x => x == id) (fun id => borderM (calOf ks id) kind) p.xs p.xs.length = reachI (fun x => x == id) (fun id => borderM (calOf ks id) kind) p.xs g)
  case atStart => exact ⟨rfl, Nat.le_refl _, Below.refl _ _, rfl⟩
  case round =>
    obtain ⟨rfl, hgl, hb, hrec⟩ := hrel
    have HB := hide hb
    have HR := hide hrec
    clear hrec hcz
    cases gk with
    | zero =>
      clear hb
      go_wp2
      go_ret
      exact ⟨by rw [unhide HR]; rfl, unhide HB⟩
    | succ n =>
      obtain ⟨x, hx⟩ : ∃ x, p.xs[n]? = some x := ⟨_, List.getElem?_eq_getElem (by omega)⟩
      have hxm := List.mem_of_getElem? hx
      obtain ⟨g, off, hpa, hcell⟩ := ((unhide HH).below hb).part.nums n x hx
      have hcz := ((unhide HH).below hb).cells.2.1
      unfold PartM.val at hcz
      rw [hpa] at hcz
      clear hpa
      have HBX := hide ((unhide HBD) x hxm wr hb)
      have e1 : (((n + 1 : Nat) : Int) - 1) = (n : Int) := by omega
      rw [e1]
      have HRC : Hid (reachI (fun x => x == id) (fun id => borderM (calOf ks id) kind) p.xs (n + 1) = if (x == id) then true else if borderM (calOf ks x) kind then false else reachI (fun x => x == id) (fun id => borderM (calOf ks id) kind) p.xs n) := hide (by rw [reachI, hx])
      have hn0 : (0 : Int) ≤ (n : Int) := by omega
      have hnz : (n : Int) < (p.xs.length : Int) := by omega
      clear hb hx e1 hxm
      cases hwx : (x == id) with
      | true =>
        rw [hwx] at HRC
        go_wp2
        go_ret
        exact ⟨by rw [unhide HR, unhide HRC]; rfl, unhide HB⟩
      | false =>
        rw [hwx] at HRC
        cases hbx : borderM (calOf ks x) kind with
        | true =>
          rw [hbx] at HRC HBX
          clear hbx
          go_wp2_with (first | (go_at_call 104; refine (unhide HBX).mono ?_; rintro e w2 ⟨rfl, hb⟩; have HB2 := hide ((unhide HB).trans (hb.mono (unhide HB).size)); clear hb))
          go_ret
          exact ⟨by rw [unhide HR, unhide HRC]; rfl, unhide HB2⟩
        | false =>
          rw [hbx] at HRC HBX
          clear hbx
          go_wp2_with (first | (go_at_call 104; refine (unhide HBX).mono ?_; rintro e w2 ⟨rfl, hb⟩; have HB2 := hide ((unhide HB).trans (hb.mono (unhide HB).size)); clear hb))
          go_roundg n
          case measure => omega
          case rel => exact ⟨by go_num, by omega, unhide HB2, (unhide HR).trans (unhide HRC)⟩

set_option maxHeartbeats 2000000 in
theorem rNodeScope_out (hs : RstS w base bW bR L F) (hl : L.length ≤ 32768) (id : Int) (kind : Int) (hk : kind < 0 ∨ 4 < kind) :
    Calls Try.prog 49 #[.pointer (some ⟨bW, 0, none⟩), .int .i64 id, .int .i64 kind] w fun e w' => e = .returned (.bool false) ∧ w = w' := by
  obtain ⟨p, h, rfl, hF⟩ := hs
  have c1 := (h.cells).2.1
  unfold PartM.val at c1
  have hlz : (p.xs.length : Int) ≤ 32768 := by omega
  clear h hF hl
  rcases Nat.eq_zero_or_pos p.xs.length with h0 | h0
  · rw [h0] at c1
    clear hlz h0
    go_enter Try.func49, Try.ntmps49
    go_wp2
    go_loopg [7] 0 (fun g s7 wr => s7 = .int .i64 (-1) ∧ wr = w)
    case atStart => exact ⟨rfl, rfl⟩
    case round =>
      obtain ⟨rfl, rfl⟩ := hrel
      go_wp2
      go_ret
      exact ⟨rfl, rfl⟩
  · have h1 : (0 : Int) ≤ (p.xs.length : Int) - 1 := by omega
    generalize p.xs.length = n at *
    clear h0
    rcases hk with hk | hk
    · have hk' : ¬ 0 ≤ kind := by omega
      go_enter Try.func49, Try.ntmps49
      go_wp2
      go_loopg [7] 0 (fun g s7 wr => s7 = .int .i64 ((n : Int) - 1) ∧ wr = w)
      case atStart => exact ⟨rfl, rfl⟩
      case round =>
        obtain ⟨rfl, rfl⟩ := hrel
        go_wp2
        go_ret
        exact ⟨rfl, rfl⟩
    · have hk' : ¬ kind ≤ 4 := by omega
      have hk2 : 0 ≤ kind := by omega
      go_enter Try.func49, Try.ntmps49
      go_wp2
      go_loopg [7] 0 (fun g s7 wr => s7 = .int .i64 ((n : Int) - 1) ∧ wr = w)
      case atStart => exact ⟨rfl, rfl⟩
      case round =>
        obtain ⟨rfl, rfl⟩ := hrel
        go_wp2
        go_ret
        exact ⟨rfl, rfl⟩

theorem rNodeScope_any (ha : RfK w base bR ks FA) (hs : RstS w base bW bR L F) (hg : Good ks L) (id : Int) (kind : Int) (hbd : 0 ≤ kind → kind ≤ 4 → BordIs w bW ks L kind) :
    Calls Try.prog 49 #[.pointer (some ⟨bW, 0, none⟩), .int .i64 id, .int .i64 kind] w fun e w' => e = .returned (.bool (nodeScopeM ks L id kind)) ∧ Below w.heap.size w w' := by
  unfold nodeScopeM
  by_cases hk : kind < 0 ∨ 4 < kind
  · rw [if_pos hk]
    refine (rNodeScope_out hs ((LiveR.mk' ha hs).few hg) id kind hk).mono ?_
    rintro e w' ⟨rfl, rfl⟩
    exact ⟨rfl, Below.refl _ _⟩
  · rw [if_neg hk]
    exact rNodeScope_in ha hs hg id kind (by omega) (by omega) (hbd (by omega) (by omega))
end
end Go.Proofs.Ytmllhebmaldgfaa
