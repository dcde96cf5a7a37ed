/-
  PlaceSpots, walked.
-/
import Derived.Test.YtmllhebmaldgfaaQWy
namespace Go.Proofs.Ytmllhebmaldgfaa
open Go.RowKit

section
variable {w wx : World} {obs : List (Ob w.heap.size)} {i j bA bR bK bW : Nat} {os : List OneM} {L : List Int}
theorem foster_any (h : Env w wx obs) (hi : obs[i]? = some (aO _ bA os)) (hj : obs[j]? = some (stOb _ bK bA (keysO os) L)) (hij : i ≠ j) (hg : Good (keysO os) L) (t : Int) :
    Calls Try.prog 87 #[.pointer (some ⟨bA, 0, none⟩), .pointer (some ⟨bK, 0, none⟩), .int .i64 t] wx fun e w' => e = .returned (spotV (progF os L t).1 (progF os L t).2) ∧ Below wx.heap.size wx w' := by
  have hat : ∀ z : Nat, z < L.length → ∃ p : Nat, L[z]? = some (p : Int) ∧ p < os.length ∧ atM L (z : Int) = (p : Int) := by
    intro z hz
    obtain ⟨p, e, hp⟩ := elOf_nat (hg.el _ (List.getElem_mem hz))
    rw [keysO_len] at hp
    exact ⟨p, by rw [List.getElem?_eq_getElem hz, e], hp, by rw [atM_in (List.getElem?_eq_getElem hz)]; exact e⟩
  rcases scanL_lt (qK (keysO os) [tableB, tmplB]) L L.length with hs | ⟨z, hs, hzl, hq⟩
  · have e : progF os L t = (if L = [] then t else atM L 0, -1) := by unfold progF; rw [if_pos hs]
    rw [e]
    refine foster_none h hi hj hij hg t hs (atM L 0) (-1) rfl rfl _ _ ?_
    by_cases hL : L = []
    · left
      subst hL
      exact ⟨rfl, rfl, rfl, rfl⟩
    · right
      rw [if_neg hL]
      obtain ⟨p, _, _, e2⟩ := hat 0 (List.length_pos_iff.2 hL)
      have e3 : atM L 0 = (p : Int) := e2
      exact ⟨by rw [e3]; omega, rfl, rfl⟩
  · obtain ⟨p, hz, hp, hpa⟩ := hat z hzl
    have ho : os[p]? = some os[p] := List.getElem?_eq_getElem hp
    rw [hz] at hq
    have hq2 : isOfO os[p] [tableB, tmplB] = true := by rw [← qK_of ho]; exact hq
    have hkt : qK (keysO os) [tmplB] (p : Int) = isOfO os[p] [tmplB] := qK_of ho _
    have hup : upIO os (p : Int) = os[p].up := upIO_of ho
    unfold progF
    rw [hs, if_neg (show ¬ ((z : Int) = -1) by omega), hpa, hkt, hup]
    cases hT : isOfO os[p] [tmplB] with
    | true =>
      rw [if_pos rfl]
      exact foster_tmpl h hi hj hij hg t hs hz ho hT (p : Int) (-1) rfl rfl _ _ (.inr ⟨by omega, rfl, rfl⟩)
    | false =>
      rw [if_neg (by decide)]
      have hT2 : hasT [tmplB] os[p].name = false := by
        unfold isOfO at hq2 hT
        simp only [Bool.and_eq_true] at hq2
        rw [hq2.1.1, hq2.1.2] at hT
        simpa using hT
      by_cases hu : os[p].up = -1
      · rw [if_neg (fun hh => hh hu)]
        by_cases hz0 : z = 0
        · subst hz0
          rw [if_pos (show (((0 : Nat) : Int)) = 0 from rfl)]
          exact foster_down h hi hj hij hg t hs hz ho hT2 hu (atM L (((0 : Nat) : Int) - 1)) (-1) rfl rfl _ _ (.inl ⟨rfl, rfl, rfl, rfl⟩)
        · rw [if_neg (show ¬ ((z : Int) = 0) by omega)]
          obtain ⟨p2, _, _, e2⟩ := hat (z - 1) (by omega)
          have e3 : atM L ((z : Int) - 1) = (p2 : Int) := by rw [← e2]; congr 1; omega
          exact foster_down h hi hj hij hg t hs hz ho hT2 hu (atM L ((z : Int) - 1)) (-1) rfl rfl _ _ (.inr ⟨by rw [e3]; omega, rfl, rfl⟩)
      · rw [if_pos hu]
        exact foster_up h hi hj hij hg t hs hz ho hT2 hu os[p].up (p : Int) rfl rfl _ _ (.inr ⟨by omega, rfl, rfl⟩)

def partsB : List ByteArray := [⟨#[116, 97, 98, 108, 101]⟩, ⟨#[116, 98, 111, 100, 121]⟩, ⟨#[116, 102, 111, 111, 116]⟩, ⟨#[116, 104, 101, 97, 100]⟩, ⟨#[116, 114]⟩]
theorem named5 (h : Env w wx obs) (hi : obs[i]? = some (aO _ bA os)) {k : Nat} {o : OneM} (ho : os[k]? = some o) (ob : Obj) :
    Calls Try.prog 86 #[.pointer (some ⟨bA, 0, none⟩), .int .i64 k, .slice (some ⟨wx.heap.size + 1, 0, none⟩) 5 5] ((wx.alloc ob).alloc (.cells #[.string ⟨#[116, 97, 98, 108, 101]⟩, .string ⟨#[116, 98, 111, 100, 121]⟩, .string ⟨#[116, 102, 111, 111, 116]⟩, .string ⟨#[116, 104, 101, 97, 100]⟩, .string ⟨#[116, 114]⟩] 9)) fun e w' => e = .returned (.bool (isOfO o partsB)) ∧ Below (wx.alloc ob).heap.size (wx.alloc ob) w' := by
  have h1 := h.more (below_new wx ob)
  have := pNamed_any (h1.more (below_new _ (.cells (sRow partsB) 9))) hi ho partsB (by simp [partsB]) (wx.alloc ob).heap.size (tab_new (wx.alloc ob) partsB 9)
  rw [show (some (⟨(wx.alloc ob).heap.size, 0, none⟩ : Addr)) = some ⟨wx.heap.size + 1, 0, none⟩ by simp] at this
  refine Calls.mono this ?_
  rintro e w' ⟨rfl, hb⟩
  exact ⟨rfl, (below_new _ _).trans (hb.mono (by simp))⟩

/-- Where Spot leads, with foster parents. -/
def spotP (os : List OneM) (L : List Int) (k : Nat) : Int × Int := outP os (if qK (keysO os) partsB (k : Int) then progF os L (k : Int) else ((k : Int), -1))

set_option maxHeartbeats 2000000 in
set_option maxRecDepth 100000 in
theorem spot_foster (h : Env w wx obs) (hi : obs[i]? = some (aO _ bA os)) (hj : obs[j]? = some (stOb _ bK bA (keysO os) L)) (hij : i ≠ j) (hg : Good (keysO os) L) {k : Nat} {o : OneM} (ho : os[k]? = some o) {fp : Nat} {fb : Int} {oq : OneM} (hpos : (if isOfO o partsB then progF os L (k : Int) else ((k : Int), -1)) = ((fp : Int), fb)) (hoq : os[fp]? = some oq) :
    Calls Try.prog 30 #[.pointer (some ⟨bA, 0, none⟩), .pointer (some ⟨bK, 0, none⟩), .int .i64 k, .bool true] wx fun e w' => e = .returned (.tuple #[if isOfO oq [tmplB] then spotV oq.inner (-1) else spotV fp fb, .int .i64 0]) ∧ Env w w' obs := by
  have HE := hide h
  have HA := hide (fun W (hW : Env w W obs) => amadeA hW hi)
  have HS := hide (fun W (hW : Env w W obs) => amadeS hW hi hj hij hg)
  have HT := hide (fun W (hW : Env w W obs) ob x => athere1b hW hi ob x)
  have HO := hide (fun W (hW : Env w W obs) => out_any hW hi hoq fb)
  have HY := hide (hasO_of ho)
  have HAT := hide (fun (W : World) (x : Int) => atEnd_any W x)
  have HN := hide (fun W (hW : Env w W obs) ob => named5 hW hi ho ob)
  have HF := hide (fun W (hW : Env w W obs) => foster_any hW hi hj hij hg (k : Int))
  obtain ⟨sa, sb, hsp⟩ : ∃ sa sb, (if isOfO oq [tmplB] then spotV oq.inner (-1) else spotV fp fb) = spotV sa sb := by
    split
    · exact ⟨_, _, rfl⟩
    · exact ⟨_, _, rfl⟩
  rw [hsp] at HO ⊢
  clear h hi hj hg ho hsp hoq
  cases hc : isOfO o partsB with
  | true =>
    rw [hc, if_pos rfl] at hpos
    rw [hc] at HN
    rw [hpos] at HF
    unfold spotV at HO HAT HF ⊢
    clear hc hpos
    go_enter Try.func30, Try.ntmps30
    go_wp2_with (first
      | (go_at_call 82; refine ((unhide HA) _ ((unhide HE).more (below_new _ _))).mono ?_; rintro e w1 ⟨rfl, rfl⟩)
      | (go_at_call 83; refine ((unhide HS) _ ((unhide HE).more (below_new _ _))).mono ?_; rintro e w2 ⟨rfl, rfl⟩)
      | (go_at_call 84; refine ((unhide HT) _ (unhide HE) _ _).mono ?_; rintro e w3 ⟨rfl, rfl⟩; rw [unhide HY])
      | (go_at_call 85; refine ((unhide HAT) _ _).mono ?_; rintro e w4 ⟨rfl, hb4⟩; have HS4 := hide (((Sp.new wx 0 0).alloc _).more hb4); clear hb4)
      | (go_at_call 86; refine ((unhide HN) _ ((unhide HE).more (unhide HS4).bel) _).mono ?_; rintro e w5 ⟨rfl, hb⟩; have HS5 := hide (((unhide HS4).alloc _).more hb); have HA5 := hide ((show Sp wx (w4.alloc (.cells #[.int .i64 k, .int .i64 (-1)] 60)) w4.heap.size k (-1) from ⟨((unhide HS4).alloc _).bel, (unhide HS4).bel.size, Box2.new w4 k (-1)⟩).more hb); have HNE := hide (show wx.heap.size ≠ w4.heap.size from by have h1 := lt_of_block (unhide HS4).box; omega); clear hb; obtain ⟨q0, q1, q2, q3⟩ := (unhide HA5).cells)
      | (go_at_call 87; refine ((unhide HF) _ ((unhide HE).more (unhide HS5).bel)).mono ?_; rintro e w6 ⟨rfl, hb⟩; have HS6 := hide ((unhide HS5).more hb); have HA6 := hide ((unhide HA5).more hb); clear hb q0 q1 q2 q3; obtain ⟨q0, q1, q2, q3⟩ := (unhide HA6).cells)
      | (go_at_call 88; refine ((unhide HO) _ ((unhide HE).more ((unhide HA6).put fp fb).bel)).mono ?_; rintro e w7 ⟨rfl, hb⟩; have HS7 := hide (((unhide HS6).far (unhide HA6).le (unhide HNE) fp fb).more hb); clear hb q0 q1 q2 q3; obtain ⟨q0, q1, q2, q3⟩ := (unhide HS7).cells))
    have R := (unhide HS7).put sa sb
    exact bodyPost_ret (spot_ret (p := 8) (u := 9) Try.results30 (b := wx.heap.size) R.box _ _ rfl rfl) rfl ⟨rfl, (unhide HE).more R.bel⟩
  | false =>
    rw [hc, if_neg (by decide)] at hpos
    rw [hc] at HN
    obtain ⟨e1, e2⟩ := Prod.mk.inj hpos
    have e3 : k = fp := by omega
    subst e3
    subst e2
    unfold spotV at HO HAT ⊢
    clear hc hpos e1 HF
    go_enter Try.func30, Try.ntmps30
    go_wp2_with (first
      | (go_at_call 82; refine ((unhide HA) _ ((unhide HE).more (below_new _ _))).mono ?_; rintro e w1 ⟨rfl, rfl⟩)
      | (go_at_call 83; refine ((unhide HS) _ ((unhide HE).more (below_new _ _))).mono ?_; rintro e w2 ⟨rfl, rfl⟩)
      | (go_at_call 84; refine ((unhide HT) _ (unhide HE) _ _).mono ?_; rintro e w3 ⟨rfl, rfl⟩; rw [unhide HY])
      | (go_at_call 85; refine ((unhide HAT) _ _).mono ?_; rintro e w4 ⟨rfl, hb4⟩; have HS4 := hide (((Sp.new wx 0 0).alloc _).more hb4); clear hb4)
      | (go_at_call 86; refine ((unhide HN) _ ((unhide HE).more (unhide HS4).bel) _).mono ?_; rintro e w5 ⟨rfl, hb⟩; have HS5 := hide (((unhide HS4).alloc _).more hb); have HA5 := hide ((show Sp wx (w4.alloc (.cells #[.int .i64 k, .int .i64 (-1)] 60)) w4.heap.size k (-1) from ⟨((unhide HS4).alloc _).bel, (unhide HS4).bel.size, Box2.new w4 k (-1)⟩).more hb); have HNE := hide (show wx.heap.size ≠ w4.heap.size from by have h1 := lt_of_block (unhide HS4).box; omega); clear hb; obtain ⟨q0, q1, q2, q3⟩ := (unhide HA5).cells)
      | (go_at_call 88; refine ((unhide HO) _ ((unhide HE).more (unhide HA5).bel)).mono ?_; rintro e w7 ⟨rfl, hb⟩; have HS7 := hide ((unhide HS5).more hb); clear hb q0 q1 q2 q3; obtain ⟨q0, q1, q2, q3⟩ := (unhide HS7).cells))
    have R := (unhide HS7).put sa sb
    exact bodyPost_ret (spot_ret (p := 8) (u := 9) Try.results30 (b := wx.heap.size) R.box _ _ rfl rfl) rfl ⟨rfl, (unhide HE).more R.bel⟩
end
end Go.Proofs.Ytmllhebmaldgfaa
/-
  The document's place: last, fostered.
-/
namespace Go.Proofs.Ytmllhebmaldgfaa
open Go.RowKit

section
variable {w wx : World} {obs : List (Ob w.heap.size)} {i j bA bR bK bW : Nat} {os : List OneM} {L : List Int}
theorem Env.liveR (h : Env w wx obs) (hi : obs[i]? = some (rO _ bR os)) (hj : obs[j]? = some (rsO _ bW bR L)) (hij : i ≠ j) : LiveR wx w.heap.size bW bR (keysO os) L := by
  obtain ⟨FA, F, h1, h2, _⟩ := h.rs hi hj hij
  exact LiveR.mk' h1 h2
/-- What the walks read of both. -/
theorem Env.rread (h : Env w wx obs) (hi : obs[i]? = some (rO _ bR os)) (hj : obs[j]? = some (rsO _ bW bR L)) : ∃ (pa : Option Addr) (pc g cap : Nat), wx.cell? ⟨bW, 0, none⟩ = some (.pointer (some ⟨bR, 0, none⟩)) ∧ wx.cell? ⟨bW, 1, none⟩ = some (.slice pa L.length pc) ∧ wx.cell? ⟨bR, 0, none⟩ = some (.slice (some ⟨g, 0, none⟩) os.length cap) ∧
    (∀ (z : Nat) (x : Int), L[z]? = some x → ∃ gb off, pa = some ⟨gb, off, none⟩ ∧ wx.cell? ⟨gb, off + z, none⟩ = some (.int .i64 x)) ∧ (∀ (q : Nat) (o : OneM), os[q]? = some o → wx.cell? ⟨g, q * 10 + 6, none⟩ = some (.int .i64 o.inner) ∧ wx.cell? ⟨g, q * 10 + 8, none⟩ = some (.int .i64 o.up)) ∧ os.length ≤ 32768 := by
  obtain ⟨F, ⟨p, hs, rfl, _⟩, _⟩ := h.upd hj
  obtain ⟨F2, ⟨g, cap, rs, hr, rfl, _⟩, _⟩ := h.upd hi
  obtain ⟨c0, c1, _⟩ := hs.cells
  unfold PartM.val at c1
  refine ⟨p.a, p.cap, g, cap, c0, c1, by rw [osOf_len]; exact hr.cR, fun z x hx => hs.part.nums z x hx, fun q o hq => ?_, by rw [osOf_len]; exact hr.most⟩
  have hlt := (List.getElem?_eq_some_iff.1 hq).1
  rw [osOf_len] at hlt
  obtain ⟨r, hrr⟩ : ∃ r, rs[q]? = some r := ⟨_, List.getElem?_eq_getElem hlt⟩
  have hro := osOf_get hrr
  rw [hq] at hro
  cases hro
  obtain ⟨_, _, _, _, _, _, c6, _, c8, _⟩ := hr.cells10 hrr
  exact ⟨c6, c8⟩

set_option maxHeartbeats 1000000 in
theorem xlast_any (h : Env w wx obs) (hi : obs[i]? = some (rO _ bR os)) (hj : obs[j]? = some (rsO _ bW bR L)) (hij : i ≠ j) (hg : Good (keysO os) L) (name : ByteArray) :
    Calls Try.prog 124 #[.pointer (some ⟨bW, 0, none⟩), .string name] wx fun e w' => e = .returned (.int .i64 (scanL (qK (keysO os) [name]) L L.length)) ∧ wx = w' := by
  have hlive := h.liveR hi hj hij
  have hfew := hlive.few hg
  have HNM := hide (fun (id : Int) => rNamed_any hlive id name)
  obtain ⟨pa, pc, g, cap, c0, c1, c2, hL, _, _⟩ := h.rread hi hj
  have HL := hide hL
  have hz : (L.length : Int) ≤ 32768 := by omega
  clear h hi hj hg hlive hL hfew
  go_enter Try.func124, Try.ntmps124
  go_wp2
  go_loopg [5] L.length (fun g s5 wr => s5 = .int .i64 ((g : Int) - 1) ∧ g ≤ L.length ∧ wr = wx ∧ scanL (qK (keysO os) [name]) L L.length = scanL (qK (keysO os) [name]) L g)
  case atStart => exact ⟨rfl, Nat.le_refl _, rfl, rfl⟩
  case round =>
    obtain ⟨rfl, hgl, rfl, hsc⟩ := hrel
    have HSC := hide hsc
    clear hsc
    cases gk with
    | zero =>
      go_wp2
      go_ret
      refine ⟨?_, rfl⟩
      rw [unhide HSC]
      rfl
    | succ n =>
      obtain ⟨y, hy⟩ : ∃ y, L[n]? = some y := ⟨_, List.getElem?_eq_getElem (by omega)⟩
      obtain ⟨gb, off, rfl, hcell⟩ := (unhide HL) n y hy
      have e1 : (((n + 1 : Nat) : Int) - 1) = (n : Int) := by omega
      rw [e1]
      have HY := hide hy
      have hnz : (n : Int) < (L.length : Int) := by omega
      have hn0 : (0 : Int) ≤ (n : Int) := by omega
      have HGL := hide hgl
      have hst : scanL (qK (keysO os) [name]) L (n + 1) = if qK (keysO os) [name] y then (n : Int) else scanL (qK (keysO os) [name]) L n := by
        have : scanL (qK (keysO os) [name]) L (n + 1) = if qK (keysO os) [name] ((L[n]?).getD (-1)) then (n : Int) else scanL (qK (keysO os) [name]) L n := rfl
        rw [this, hy]
        rfl
      have HST := hide hst
      have HNY := hide ((unhide HNM) y)
      clear hy e1 hgl hst
      cases hq : ((elOf (keysO os) y).isSome && namedM (calOf (keysO os) y) name) with
      | true =>
        have HQ := hide (show qK (keysO os) [name] y = true from hq)
        rw [hq] at HNY
        clear hq
        go_wp2_with (go_at_call 103; refine (unhide HNY).mono ?_; rintro e w' ⟨rfl, rfl⟩)
        go_ret
        refine ⟨?_, rfl⟩
        rw [unhide HSC, unhide HST, unhide HQ]
        rfl
      | false =>
        have HQ := hide (show qK (keysO os) [name] y = false from hq)
        rw [hq] at HNY
        clear hq
        go_wp2_with (go_at_call 103; refine (unhide HNY).mono ?_; rintro e w' ⟨rfl, rfl⟩)
        go_roundg n
        case measure => omega
        case rel =>
          refine ⟨by go_num, by have := unhide HGL; omega, rfl, ?_⟩
          rw [unhide HSC, unhide HST, unhide HQ]
          rfl

theorem good_at (hg : Good (keysO os) L) (z : Nat) (hz : z < L.length) : ∃ (p : Nat) (o : OneM), L[z]? = some (p : Int) ∧ os[p]? = some o ∧ atM L (z : Int) = (p : Int) := by
  obtain ⟨p, e, hp⟩ := elOf_nat (hg.el _ (List.getElem_mem hz))
  rw [keysO_len] at hp
  exact ⟨p, _, by rw [List.getElem?_eq_getElem hz, e], List.getElem?_eq_getElem hp, by rw [atM_in (List.getElem?_eq_getElem hz)]; exact e⟩

set_option maxHeartbeats 2000000 in
set_option maxRecDepth 100000 in
theorem xfoster_any (h : Env w wx obs) (hi : obs[i]? = some (rO _ bR os)) (hj : obs[j]? = some (rsO _ bW bR L)) (hij : i ≠ j) (hg : Good (keysO os) L) (t : Int) :
    Calls Try.prog 91 #[.pointer (some ⟨bR, 0, none⟩), .pointer (some ⟨bW, 0, none⟩), .int .i64 t] wx fun e w' => e = .returned (spotV (docF os L t).1 (docF os L t).2) ∧ Below wx.heap.size wx w' := by
  have h1 := h.more (below_new wx (.cells #[.int .i64 0, .int .i64 0] 60))
  have HLT := hide (xlast_any h1 hi hj hij hg tmplB)
  have HLB := hide (xlast_any h1 hi hj hij hg tableB)
  have bM := scanL_lt (qK (keysO os) [tmplB]) L L.length
  have bT := scanL_lt (qK (keysO os) [tableB]) L L.length
  have hat := fun z hz => good_at hg z hz
  obtain ⟨pa, pc, g, cap, c0, c1, c2, hL, hO, hom⟩ := h1.rread hi hj
  have HL := hide hL
  have HO := hide hO
  have hfew := (h1.liveR hi hj hij).few hg
  have hlz : (L.length : Int) ≤ 32768 := by omega
  have HRES := hide (Sp.new wx 0 0)
  obtain ⟨s0, s1, s2, s3⟩ := (Sp.new wx 0 0).cells
  unfold docF spotV
  unfold tmplB at HLT
  unfold tableB at HLB
  clear h h1 hi hj hg hL hO hfew
  have htm : (⟨#[116, 101, 109, 112, 108, 97, 116, 101]⟩ : ByteArray) = tmplB := rfl
  have htb : (⟨#[116, 97, 98, 108, 101]⟩ : ByteArray) = tableB := rfl
  rw [htm] at HLT
  rw [htb] at HLB
  generalize scanL (qK (keysO os) [tmplB]) L L.length = zM at *
  generalize scanL (qK (keysO os) [tableB]) L L.length = zT at *
  unfold tmplB at HLT
  unfold tableB at HLB
  clear htm htb
  by_cases hM : 0 ≤ zM ∧ zT < zM
  · rw [if_pos hM]
    rcases bM with e | ⟨z, rfl, hz, _⟩
    · omega
    · have hgt : zT < (z : Int) := hM.2
      obtain ⟨p, o, hp, hop, hpa⟩ := hat z hz
      obtain ⟨gb, off, rfl, hcell⟩ := (unhide HL) z _ hp
      obtain ⟨i6, i8⟩ := (unhide HO) p _ hop
      have hzz : (z : Int) < (L.length : Int) := by omega
      have hz0 : (0 : Int) ≤ (z : Int) := by omega
      have hpz : (p : Int) < (os.length : Int) := by have := (List.getElem?_eq_some_iff.1 hop).1; omega
      have hp0 : (0 : Int) ≤ (p : Int) := by omega
      have hom' : (os.length : Int) ≤ 32768 := by omega
      rw [hpa, innerO_of hop]
      generalize o.inner = inn at *
      clear hp hop hpa hz
      clear hM bT hat hom
      go_enter Try.func91, Try.ntmps91
      go_wp2_with (first
        | (go_at_call 124; have _x := unhide HG1; refine (unhide HLB).mono ?_; rintro e w2 ⟨rfl, rfl⟩)
        | (go_at_call 124; refine (unhide HLT).mono ?_; rintro e w1 ⟨rfl, rfl⟩; have HG1 := hide trivial))
      try go_region
      all_goals go_wp2
      all_goals have R := Sp.new wx inn (-1)
      all_goals first
        | exact bodyPost_ret (spot_ret1 (p := 6) Try.results91 (b := wx.heap.size) R.box _ rfl) rfl ⟨rfl, R.bel⟩
        | exact bodyPost_ret (spot_ret1 (p := 6) Try.results91 (b := wx.heap.size) R.drew.box _ rfl) rfl ⟨rfl, R.drew.bel⟩
  · rw [if_neg hM]
    by_cases hT : zT < 0
    · rw [if_pos hT]
      have hTz : zT = -1 := by rcases bT with e | ⟨z, e, _, _⟩ <;> omega
      subst hTz
      have hM2 : zM = -1 := by rcases bM with e | ⟨z, e, _, _⟩ <;> omega
      subst hM2
      by_cases hL0 : L = []
      · subst hL0
        rw [if_pos rfl]
        clear hT
        clear hM bT bM hat hom
        go_enter Try.func91, Try.ntmps91
        go_wp2_with (first
          | (go_at_call 124; have _x := unhide HG1; refine (unhide HLB).mono ?_; rintro e w2 ⟨rfl, rfl⟩)
          | (go_at_call 124; refine (unhide HLT).mono ?_; rintro e w1 ⟨rfl, rfl⟩; have HG1 := hide trivial))
        try go_region
        all_goals go_wp2
        all_goals have R := Sp.new wx t (-1)
        all_goals first
          | exact bodyPost_ret (spot_ret1 (p := 6) Try.results91 (b := wx.heap.size) R.box _ rfl) rfl ⟨rfl, R.bel⟩
          | exact bodyPost_ret (spot_ret1 (p := 6) Try.results91 (b := wx.heap.size) R.drew.box _ rfl) rfl ⟨rfl, R.drew.bel⟩
      · rw [if_neg hL0]
        have hz : 0 < L.length := List.length_pos_iff.2 hL0
        obtain ⟨p, o, hp, hop, hpa⟩ := hat 0 hz
        obtain ⟨gb, off, rfl, hcell⟩ := (unhide HL) 0 _ hp
        have hpa' : atM L 0 = (p : Int) := hpa
        rw [Nat.add_zero] at hcell
        rw [hpa']
        have hzz : (0 : Int) < (L.length : Int) := by omega
        clear hp hop hpa hpa' hz hL0 hT
        clear hM bT bM hat hom
        go_enter Try.func91, Try.ntmps91
        go_wp2_with (first
          | (go_at_call 124; have _x := unhide HG1; refine (unhide HLB).mono ?_; rintro e w2 ⟨rfl, rfl⟩)
          | (go_at_call 124; refine (unhide HLT).mono ?_; rintro e w1 ⟨rfl, rfl⟩; have HG1 := hide trivial))
        try go_region
        all_goals go_wp2
        all_goals have R := Sp.new wx p (-1)
        all_goals first
          | exact bodyPost_ret (spot_ret1 (p := 6) Try.results91 (b := wx.heap.size) R.box _ rfl) rfl ⟨rfl, R.bel⟩
          | exact bodyPost_ret (spot_ret1 (p := 6) Try.results91 (b := wx.heap.size) R.drew.box _ rfl) rfl ⟨rfl, R.drew.bel⟩
    · rw [if_neg hT]
      rcases bT with e | ⟨z, rfl, hz, _⟩
      · omega
      · have hno : ¬ ((z : Int) < zM) := by omega
        have hnd : decide ((z : Int) < zM) = false := decide_eq_false hno
        obtain ⟨p, o, hp, hop, hpa⟩ := hat z hz
        obtain ⟨gb, off, rfl, hcell⟩ := (unhide HL) z _ hp
        obtain ⟨i6, i8⟩ := (unhide HO) p _ hop
        have hzz : (z : Int) < (L.length : Int) := by omega
        have hz0 : (0 : Int) ≤ (z : Int) := by omega
        have hpz : (p : Int) < (os.length : Int) := by have := (List.getElem?_eq_some_iff.1 hop).1; omega
        have hp0 : (0 : Int) ≤ (p : Int) := by omega
        have hom' : (os.length : Int) ≤ 32768 := by omega
        rw [hpa, upIO_of hop]
        have hT0 : ¬ ((z : Int) < 0) := by omega
        by_cases hu : o.up = -1
        · rw [if_neg (fun hh => hh hu)]
          rw [hu] at i8
          by_cases hz1 : 0 < (z : Int)
          · rw [if_pos hz1]
            obtain ⟨p2, o2, hp2, hop2, hpa2⟩ := hat (z - 1) (by omega)
            obtain ⟨gb2, off2, e2, hcell2⟩ := (unhide HL) (z - 1) _ hp2
            cases e2
            have e3 : atM L ((z : Int) - 1) = (p2 : Int) := by rw [← hpa2]; congr 1; omega
            rw [e3]
            have e4 : off + (z - 1) = off + ((z : Int) - 1).toNat := by omega
            have hzm : ((z : Int) - 1) < (L.length : Int) := by omega
            have hzm0 : (0 : Int) ≤ (z : Int) - 1 := by omega
            obtain ⟨z1, rfl⟩ : ∃ z1, z = z1 + 1 := ⟨z - 1, by omega⟩
            simp only [Nat.add_sub_cancel] at hcell2
            clear hp hop hpa hp2 hop2 hpa2 e3 e4 hu hT
            clear hM bM hat hom hz
            go_enter Try.func91, Try.ntmps91
            go_wp2_with (first
              | (go_at_call 124; have _x := unhide HG1; refine (unhide HLB).mono ?_; rintro e w2 ⟨rfl, rfl⟩)
              | (go_at_call 124; refine (unhide HLT).mono ?_; rintro e w1 ⟨rfl, rfl⟩; have HG1 := hide trivial))
            try go_region
            all_goals go_wp2
            all_goals have R := Sp.new wx p2 (-1)
            all_goals first
              | exact bodyPost_ret (spot_ret1 (p := 6) Try.results91 (b := wx.heap.size) R.box _ rfl) rfl ⟨rfl, R.bel⟩
              | exact bodyPost_ret (spot_ret1 (p := 6) Try.results91 (b := wx.heap.size) R.drew.box _ rfl) rfl ⟨rfl, R.drew.bel⟩
          · rw [if_neg hz1]
            obtain rfl : z = 0 := by omega
            rw [Nat.add_zero] at hcell
            have HLB0 : Hid (Calls Try.prog 124 #[.pointer (some ⟨bW, 0, none⟩), .string ⟨#[116, 97, 98, 108, 101]⟩] (wx.alloc (.cells #[.int .i64 0, .int .i64 0] 60)) fun e w' => e = .returned (.int .i64 0) ∧ (wx.alloc (.cells #[.int .i64 0, .int .i64 0] 60)) = w') := HLB
            clear HLB
            have HLB := HLB0
            clear HLB0
            have hzz0 : (0 : Int) < (L.length : Int) := hzz
            have hno0 : ¬ ((0 : Int) < zM) := hno
            have hnd0 : decide ((0 : Int) < zM) = false := hnd
            clear hzz hno hnd hz0 hT0 hz1
            clear hp hop hpa hu hT
            clear hM bM hat hom hz
            go_enter Try.func91, Try.ntmps91
            go_wp2_with (first
              | (go_at_call 124; have _x := unhide HG1; refine (unhide HLB).mono ?_; rintro e w2 ⟨rfl, rfl⟩)
              | (go_at_call 124; refine (unhide HLT).mono ?_; rintro e w1 ⟨rfl, rfl⟩; have HG1 := hide trivial))
            try go_region
            all_goals go_wp2
            all_goals have R := Sp.new wx t (-1)
            all_goals first
              | exact bodyPost_ret (spot_ret1 (p := 6) Try.results91 (b := wx.heap.size) R.box _ rfl) rfl ⟨rfl, R.bel⟩
              | exact bodyPost_ret (spot_ret1 (p := 6) Try.results91 (b := wx.heap.size) R.drew.box _ rfl) rfl ⟨rfl, R.drew.bel⟩
        · rw [if_pos hu]
          have hu2 : (o.up != -1) = true := by simp [hu]
          generalize o.up = ou at *
          clear hp hop hpa hT
          clear hM bM hat hom hz
          go_enter Try.func91, Try.ntmps91
          go_wp2_with (first
            | (go_at_call 124; have _x := unhide HG1; refine (unhide HLB).mono ?_; rintro e w2 ⟨rfl, rfl⟩)
            | (go_at_call 124; refine (unhide HLT).mono ?_; rintro e w1 ⟨rfl, rfl⟩; have HG1 := hide trivial))
          try go_region
          all_goals go_wp2
          all_goals have R := Sp.new wx ou p
          all_goals first
            | exact bodyPost_ret (spot_ret1 (p := 6) Try.results91 (b := wx.heap.size) R.box _ rfl) rfl ⟨rfl, R.bel⟩
            | exact bodyPost_ret (spot_ret1 (p := 6) Try.results91 (b := wx.heap.size) R.drew.box _ rfl) rfl ⟨rfl, R.drew.bel⟩
end
end Go.Proofs.Ytmllhebmaldgfaa
/-
  The document's Spot.
-/
namespace Go.Proofs.Ytmllhebmaldgfaa
open Go.RowKit

section
variable {w wx : World} {obs : List (Ob w.heap.size)} {i j bA bR bK bW : Nat} {os : List OneM} {L : List Int}
theorem xis_any (h : Env w wx obs) (hi : obs[i]? = some (rO _ bR os)) (t : Int) : Calls Try.prog 89 #[.pointer (some ⟨bR, 0, none⟩), .int .i64 t] wx fun e w' => e = .returned (.bool (hasO os t)) ∧ wx = w' := by
  obtain ⟨F, ha, _⟩ := h.r hi
  have h1 := rIs_any (ks := keysO os) ⟨os, ha, rfl⟩ t
  have e : (keyAt (keysO os) t).isSome = hasO os t := by
    unfold keyAt hasO
    by_cases ht : 0 ≤ t
    · rw [if_pos ht]
      by_cases hl : t < os.length
      · rw [decide_eq_true ⟨ht, hl⟩]
        rw [Option.isSome_iff_ne_none]
        simp only [ne_eq, List.getElem?_eq_none_iff, keysO_len]
        omega
      · rw [decide_eq_false (by omega)]
        rw [List.getElem?_eq_none (by rw [keysO_len]; omega)]
        rfl
    · rw [if_neg ht, decide_eq_false (by omega)]
      rfl
  rw [e] at h1
  exact h1

set_option maxRecDepth 100000 in
theorem xspot_none (h : Env w wx obs) (hi : obs[i]? = some (rO _ bR os)) {t : Int} (ht : hasO os t = false) (v : Value) (b : Bool) :
    Calls Try.prog 31 #[.pointer (some ⟨bR, 0, none⟩), v, .int .i64 t, .bool b] wx fun e w' => e = .returned (.tuple #[spotV 0 0, .int .i64 6]) ∧ Below wx.heap.size wx w' := by
  have hI := xis_any (h.more (below_new wx (.cells #[.int .i64 0, .int .i64 0] 60))) hi t
  rw [ht] at hI
  have HI := hide hI
  unfold spotV
  clear h hi ht hI
  go_enter Try.func31, Try.ntmps31
  go_wp2_with (first | (go_at_call 89; refine (unhide HI).mono ?_; rintro e w1 ⟨rfl, rfl⟩))
  exact bodyPost_ret (spot_ret (p := 8) (u := 9) Try.results31 (b := wx.heap.size) (Sp.new wx 0 0).box _ _ rfl rfl) rfl ⟨rfl, (Sp.new wx 0 0).bel⟩

theorem of5 (h : Env w wx obs) (hi : obs[i]? = some (rO _ bR os)) (hj : obs[j]? = some (rsO _ bW bR L)) (hij : i ≠ j) {k : Nat} {o : OneM} (ho : os[k]? = some o) (ob : Obj) :
    Calls Try.prog 90 #[.pointer (some ⟨bW, 0, none⟩), .int .i64 k, .slice (some ⟨wx.heap.size + 1, 0, none⟩) 5 5] ((wx.alloc ob).alloc (.cells #[.string ⟨#[116, 97, 98, 108, 101]⟩, .string ⟨#[116, 98, 111, 100, 121]⟩, .string ⟨#[116, 102, 111, 111, 116]⟩, .string ⟨#[116, 104, 101, 97, 100]⟩, .string ⟨#[116, 114]⟩] 9)) fun e w' => e = .returned (.bool (isOfO o partsB)) ∧ (wx.alloc ob).alloc (.cells #[.string ⟨#[116, 97, 98, 108, 101]⟩, .string ⟨#[116, 98, 111, 100, 121]⟩, .string ⟨#[116, 102, 111, 111, 116]⟩, .string ⟨#[116, 104, 101, 97, 100]⟩, .string ⟨#[116, 114]⟩] 9) = w' := by
  have h1 := h.more (below_new wx ob)
  have := rOf_any ((h1.more (below_new _ (.cells (sRow partsB) 9))).liveR hi hj hij) (k : Int) partsB (by simp [partsB]) (wx.alloc ob).heap.size (tab_new (wx.alloc ob) partsB 9)
  rw [show (some (⟨(wx.alloc ob).heap.size, 0, none⟩ : Addr)) = some ⟨wx.heap.size + 1, 0, none⟩ by simp] at this
  rw [show ((elOf (keysO os) (k : Int)).isSome && amongM (calOf (keysO os) (k : Int)) 0 partsB) = isOfO o partsB from qK_of ho partsB] at this
  exact this

theorem of5b (h : Env w wx obs) (hi : obs[i]? = some (rO _ bR os)) (hj : obs[j]? = some (rsO _ bW bR L)) (hij : i ≠ j) {k : Nat} {o : OneM} (ho : os[k]? = some o) (o1 ob : Obj) :
    Calls Try.prog 90 #[.pointer (some ⟨bW, 0, none⟩), .int .i64 k, .slice (some ⟨wx.heap.size + 1 + 1, 0, none⟩) 5 5] (((wx.alloc o1).alloc ob).alloc (.cells #[.string ⟨#[116, 97, 98, 108, 101]⟩, .string ⟨#[116, 98, 111, 100, 121]⟩, .string ⟨#[116, 102, 111, 111, 116]⟩, .string ⟨#[116, 104, 101, 97, 100]⟩, .string ⟨#[116, 114]⟩] 9)) fun e w' => e = .returned (.bool (isOfO o partsB)) ∧ ((wx.alloc o1).alloc ob).alloc (.cells #[.string ⟨#[116, 97, 98, 108, 101]⟩, .string ⟨#[116, 98, 111, 100, 121]⟩, .string ⟨#[116, 102, 111, 111, 116]⟩, .string ⟨#[116, 104, 101, 97, 100]⟩, .string ⟨#[116, 114]⟩] 9) = w' := by
  have := of5 (h.more (below_new wx o1)) hi hj hij ho ob
  rw [show (some (⟨(wx.alloc o1).heap.size + 1, 0, none⟩ : Addr)) = some ⟨wx.heap.size + 1 + 1, 0, none⟩ by simp] at this
  exact this

set_option maxHeartbeats 8000000 in
set_option maxRecDepth 100000 in
theorem xspot_in (h : Env w wx obs) (hi : obs[i]? = some (rO _ bR os)) (hj : obs[j]? = some (rsO _ bW bR L)) (hij : i ≠ j) (hg : Good (keysO os) L) {k : Nat} {o : OneM} (ho : os[k]? = some o) (b : Bool) {fp : Nat} {fb : Int} {oq : OneM} (hpos : (if b && isOfO o partsB then docF os L (k : Int) else ((k : Int), -1)) = ((fp : Int), fb)) (hoq : os[fp]? = some oq) (sa sb : Int) (hsa : (oq.inner = -1 ∧ sa = (fp : Int) ∧ sb = fb) ∨ (oq.inner ≠ -1 ∧ sa = oq.inner ∧ sb = -1)) :
    Calls Try.prog 31 #[.pointer (some ⟨bR, 0, none⟩), .pointer (some ⟨bW, 0, none⟩), .int .i64 k, .bool b] wx fun e w' => e = .returned (.tuple #[spotV sa sb, .int .i64 0]) ∧ Below wx.heap.size wx w' := by
  have HE := hide h
  have HI := hide (fun W (hW : Env w W obs) => xis_any hW hi (k : Int))
  have HY := hide (hasO_of ho)
  have HOF := hide (fun W (hW : Env w W obs) o1 ob => of5b hW hi hj hij ho o1 ob)
  have HF := hide (fun W (hW : Env w W obs) => xfoster_any hW hi hj hij hg (k : Int))
  have HRD : Hid (∀ W, Env w W obs → ∃ g cap, W.cell? ⟨bR, 0, none⟩ = some (.slice (some ⟨g, 0, none⟩) os.length cap) ∧ W.cell? ⟨g, fp * 10 + 6, none⟩ = some (.int .i64 oq.inner)) := hide (fun W hW => by
    obtain ⟨pa, pc, g, cap, _, _, c2, _, hO, _⟩ := hW.rread hi hj
    exact ⟨g, cap, c2, (hO fp oq hoq).1⟩)
  have hom : (os.length : Int) ≤ 32768 := by
    obtain ⟨pa, pc, g, cap, _, _, _, _, _, h6⟩ := h.rread hi hj
    omega
  have hfp : (fp : Int) < (os.length : Int) := by have := (List.getElem?_eq_some_iff.1 hoq).1; omega
  have hfp0 : (0 : Int) ≤ (fp : Int) := by omega
  have HSA := hide hsa
  clear h hi hj hg ho hoq hsa
  generalize oq.inner = inn at *
  unfold spotV at HF ⊢
  cases b with
  | false =>
    rw [Bool.false_and, if_neg (by decide)] at hpos
    obtain ⟨e1, e2⟩ := Prod.mk.inj hpos
    have e3 : k = fp := by omega
    subst e3
    subst e2
    clear hpos e1
    rcases unhide HSA with ⟨rfl, rfl, rfl⟩ | ⟨hne, rfl, rfl⟩
    · obtain ⟨g, cap, c2, c6⟩ := (unhide HRD) _ ((unhide HE).more ((Sp.new wx 0 0).alloc (.cells #[.int .i64 k, .int .i64 (-1)] 60)).bel)
      go_enter Try.func31, Try.ntmps31
      go_wp2_with (first | (go_at_call 89; refine ((unhide HI) _ ((unhide HE).more (below_new _ _))).mono ?_; rintro e w1 ⟨rfl, rfl⟩; rw [unhide HY]))
      go_region
      all_goals go_wp2
      all_goals have R := ((Sp.new wx k (-1)).alloc (.cells #[.int .i64 k, .int .i64 (-1)] 60)).drew
      all_goals exact bodyPost_ret (spot_ret (p := 8) (u := 9) Try.results31 (b := wx.heap.size) R.box _ _ rfl rfl) rfl ⟨rfl, R.bel⟩
    · have hne2 : (sa != -1) = true := by simp [hne]
      obtain ⟨g, cap, c2, c6⟩ := (unhide HRD) _ ((unhide HE).more ((Sp.new wx 0 0).alloc (.cells #[.int .i64 k, .int .i64 (-1)] 60)).bel)
      go_enter Try.func31, Try.ntmps31
      go_wp2_with (first | (go_at_call 89; refine ((unhide HI) _ ((unhide HE).more (below_new _ _))).mono ?_; rintro e w1 ⟨rfl, rfl⟩; rw [unhide HY]))
      go_region
      all_goals go_wp2
      all_goals have R := ((Sp.new wx sa (-1)).alloc (.cells #[.int .i64 sa, .int .i64 (-1)] 60)).drew
      all_goals exact bodyPost_ret (spot_ret (p := 8) (u := 9) Try.results31 (b := wx.heap.size) R.box _ _ rfl rfl) rfl ⟨rfl, R.bel⟩
  | true =>
    rw [Bool.true_and] at hpos
    cases hc : isOfO o partsB with
    | false =>
      rw [hc, if_neg (by decide)] at hpos
      rw [hc] at HOF
      obtain ⟨e1, e2⟩ := Prod.mk.inj hpos
      have e3 : k = fp := by omega
      subst e3
      subst e2
      clear hpos e1 hc HF
      rcases unhide HSA with ⟨rfl, rfl, rfl⟩ | ⟨hne, rfl, rfl⟩
      · skip
        obtain ⟨g, cap, c2, c6⟩ := (unhide HRD) _ ((unhide HE).more (((Sp.new wx 0 0).alloc (.cells #[.int .i64 k, .int .i64 (-1)] 60)).alloc (.cells #[.string ⟨#[116, 97, 98, 108, 101]⟩, .string ⟨#[116, 98, 111, 100, 121]⟩, .string ⟨#[116, 102, 111, 111, 116]⟩, .string ⟨#[116, 104, 101, 97, 100]⟩, .string ⟨#[116, 114]⟩] 9)).bel)
        go_enter Try.func31, Try.ntmps31
        go_wp2_with (first | (go_at_call 89; refine ((unhide HI) _ ((unhide HE).more (below_new _ _))).mono ?_; rintro e w1 ⟨rfl, rfl⟩; rw [unhide HY]) | (go_at_call 90; refine ((unhide HOF) _ (unhide HE) _ _).mono ?_; rintro e w2 ⟨rfl, rfl⟩))
        go_region
        all_goals go_wp2
        all_goals have R := (((Sp.new wx k (-1)).alloc (.cells #[.int .i64 k, .int .i64 (-1)] 60)).alloc (.cells #[.string ⟨#[116, 97, 98, 108, 101]⟩, .string ⟨#[116, 98, 111, 100, 121]⟩, .string ⟨#[116, 102, 111, 111, 116]⟩, .string ⟨#[116, 104, 101, 97, 100]⟩, .string ⟨#[116, 114]⟩] 9)).drew
        all_goals exact bodyPost_ret (spot_ret (p := 8) (u := 9) Try.results31 (b := wx.heap.size) R.box _ _ rfl rfl) rfl ⟨rfl, R.bel⟩
      · have hne2 : (sa != -1) = true := by simp [hne]
        obtain ⟨g, cap, c2, c6⟩ := (unhide HRD) _ ((unhide HE).more (((Sp.new wx 0 0).alloc (.cells #[.int .i64 k, .int .i64 (-1)] 60)).alloc (.cells #[.string ⟨#[116, 97, 98, 108, 101]⟩, .string ⟨#[116, 98, 111, 100, 121]⟩, .string ⟨#[116, 102, 111, 111, 116]⟩, .string ⟨#[116, 104, 101, 97, 100]⟩, .string ⟨#[116, 114]⟩] 9)).bel)
        go_enter Try.func31, Try.ntmps31
        go_wp2_with (first | (go_at_call 89; refine ((unhide HI) _ ((unhide HE).more (below_new _ _))).mono ?_; rintro e w1 ⟨rfl, rfl⟩; rw [unhide HY]) | (go_at_call 90; refine ((unhide HOF) _ (unhide HE) _ _).mono ?_; rintro e w2 ⟨rfl, rfl⟩))
        go_region
        all_goals go_wp2
        all_goals have R := (((Sp.new wx sa (-1)).alloc (.cells #[.int .i64 sa, .int .i64 (-1)] 60)).alloc (.cells #[.string ⟨#[116, 97, 98, 108, 101]⟩, .string ⟨#[116, 98, 111, 100, 121]⟩, .string ⟨#[116, 102, 111, 111, 116]⟩, .string ⟨#[116, 104, 101, 97, 100]⟩, .string ⟨#[116, 114]⟩] 9)).drew
        all_goals exact bodyPost_ret (spot_ret (p := 8) (u := 9) Try.results31 (b := wx.heap.size) R.box _ _ rfl rfl) rfl ⟨rfl, R.bel⟩
    | true =>
      rw [hc, if_pos rfl] at hpos
      rw [hc] at HOF
      rw [hpos] at HF
      clear hc hpos
      simp only at HF
      rcases unhide HSA with ⟨rfl, rfl, rfl⟩ | ⟨hne, rfl, rfl⟩
      · skip
        go_enter Try.func31, Try.ntmps31
        go_wp2_with (first | (go_at_call 89; refine ((unhide HI) _ ((unhide HE).more (below_new _ _))).mono ?_; rintro e w1 ⟨rfl, rfl⟩; rw [unhide HY]) | (go_at_call 90; refine ((unhide HOF) _ (unhide HE) _ _).mono ?_; rintro e w2 ⟨rfl, rfl⟩) | (go_at_call 91; refine ((unhide HF) _ ((unhide HE).more (((Sp.new wx 0 0).alloc _).alloc _).bel)).mono ?_; rintro e w3 ⟨rfl, hb⟩; have HR3 := hide ((((Sp.new wx 0 0).alloc (.cells #[.int .i64 k, .int .i64 (-1)] 60)).alloc (.cells #[.string ⟨#[116, 97, 98, 108, 101]⟩, .string ⟨#[116, 98, 111, 100, 121]⟩, .string ⟨#[116, 102, 111, 111, 116]⟩, .string ⟨#[116, 104, 101, 97, 100]⟩, .string ⟨#[116, 114]⟩] 9)).more hb); have HA3 := hide (((show Sp wx ((wx.alloc (.cells #[.int .i64 0, .int .i64 0] 60)).alloc (.cells #[.int .i64 k, .int .i64 (-1)] 60)) (wx.heap.size + 1) k (-1) from ⟨((Sp.new wx 0 0).alloc _).bel, Nat.le_succ _, (two_boxes (Below.refl _ _)).2.1⟩).alloc (.cells #[.string ⟨#[116, 97, 98, 108, 101]⟩, .string ⟨#[116, 98, 111, 100, 121]⟩, .string ⟨#[116, 102, 111, 111, 116]⟩, .string ⟨#[116, 104, 101, 97, 100]⟩, .string ⟨#[116, 114]⟩] 9)).more hb); clear hb; obtain ⟨q0, q1, q2, q3⟩ := (unhide HA3).cells; obtain ⟨g, cap, c2, c6⟩ := (unhide HRD) _ ((unhide HE).more ((unhide HA3).put fp sb).bel); obtain ⟨y0, y1, y2, y3⟩ := ((unhide HR3).far (unhide HA3).le (Nat.succ_ne_self _).symm fp sb).cells; obtain ⟨z0, z1, z2, z3⟩ := ((unhide HA3).put fp sb).cells))
        go_region
        all_goals go_wp2
        all_goals have R := (((unhide HR3).far (unhide HA3).le (Nat.succ_ne_self _).symm fp sb).put fp sb).drew
        all_goals exact bodyPost_ret (spot_ret (p := 8) (u := 9) Try.results31 (b := wx.heap.size) R.box _ _ rfl rfl) rfl ⟨rfl, R.bel⟩
      · have hne2 : (sa != -1) = true := by simp [hne]
        go_enter Try.func31, Try.ntmps31
        go_wp2_with (first | (go_at_call 89; refine ((unhide HI) _ ((unhide HE).more (below_new _ _))).mono ?_; rintro e w1 ⟨rfl, rfl⟩; rw [unhide HY]) | (go_at_call 90; refine ((unhide HOF) _ (unhide HE) _ _).mono ?_; rintro e w2 ⟨rfl, rfl⟩) | (go_at_call 91; refine ((unhide HF) _ ((unhide HE).more (((Sp.new wx 0 0).alloc _).alloc _).bel)).mono ?_; rintro e w3 ⟨rfl, hb⟩; have HR3 := hide ((((Sp.new wx 0 0).alloc (.cells #[.int .i64 k, .int .i64 (-1)] 60)).alloc (.cells #[.string ⟨#[116, 97, 98, 108, 101]⟩, .string ⟨#[116, 98, 111, 100, 121]⟩, .string ⟨#[116, 102, 111, 111, 116]⟩, .string ⟨#[116, 104, 101, 97, 100]⟩, .string ⟨#[116, 114]⟩] 9)).more hb); have HA3 := hide (((show Sp wx ((wx.alloc (.cells #[.int .i64 0, .int .i64 0] 60)).alloc (.cells #[.int .i64 k, .int .i64 (-1)] 60)) (wx.heap.size + 1) k (-1) from ⟨((Sp.new wx 0 0).alloc _).bel, Nat.le_succ _, (two_boxes (Below.refl _ _)).2.1⟩).alloc (.cells #[.string ⟨#[116, 97, 98, 108, 101]⟩, .string ⟨#[116, 98, 111, 100, 121]⟩, .string ⟨#[116, 102, 111, 111, 116]⟩, .string ⟨#[116, 104, 101, 97, 100]⟩, .string ⟨#[116, 114]⟩] 9)).more hb); clear hb; obtain ⟨q0, q1, q2, q3⟩ := (unhide HA3).cells; obtain ⟨g, cap, c2, c6⟩ := (unhide HRD) _ ((unhide HE).more ((unhide HA3).put fp fb).bel); obtain ⟨y0, y1, y2, y3⟩ := ((unhide HR3).far (unhide HA3).le (Nat.succ_ne_self _).symm fp fb).cells; obtain ⟨z0, z1, z2, z3⟩ := ((unhide HA3).put fp fb).cells))
        go_region
        all_goals go_wp2
        all_goals have R := ((((unhide HR3).far (unhide HA3).le (Nat.succ_ne_self _).symm fp fb).far (unhide HA3).le (Nat.succ_ne_self _).symm sa (-1)).put sa (-1)).drew
        all_goals exact bodyPost_ret (spot_ret (p := 8) (u := 9) Try.results31 (b := wx.heap.size) R.box _ _ rfl rfl) rfl ⟨rfl, R.bel⟩
end
end Go.Proofs.Ytmllhebmaldgfaa
/-
  PlaceSpots, walked.
-/
namespace Go.Proofs.Ytmllhebmaldgfaa
open Go.RowKit

/-- What the document's way leads to is a node. -/
theorem ways_doc {ns : List NodeM} {os : List OneM} {L : List Int} (hs : Sim ns os) (hg : Good (keysO os) L) (hone : ∀ o ∈ os, OneI o) {k : Nat} (hk : k < os.length) :
    ∃ p : Nat, (docF os L (k : Int)).1 = (p : Int) ∧ p < os.length := by
  have hat : ∀ j : Nat, j < L.length → ∃ p : Nat, atM L (j : Int) = (p : Int) ∧ p < os.length ∧ L[j]? = some (p : Int) := by
    intro j hj
    have hx : L[j] ∈ L := List.getElem_mem hj
    obtain ⟨p, e, hp⟩ := elOf_nat (hg.el _ hx)
    rw [keysO_len] at hp
    refine ⟨p, ?_, hp, ?_⟩
    · rw [atM_in (List.getElem?_eq_getElem hj)]; exact e
    · rw [List.getElem?_eq_getElem hj, e]
  have bM := scanL_lt (qK (keysO os) [tmplB]) L L.length
  have bT := scanL_lt (qK (keysO os) [tableB]) L L.length
  have h3 := scanL_two L (qK_two (keysO os)) (qK_apart (keysO os)) L.length
  unfold docF
  generalize scanL (qK (keysO os) [tableB, tmplB]) L L.length = z at *
  generalize hzT : scanL (qK (keysO os) [tableB]) L L.length = zT at *
  generalize hzM : scanL (qK (keysO os) [tmplB]) L L.length = zM at *
  rcases h3 with ⟨rfl, rfl, rfl⟩ | ⟨h1, h2, rfl⟩ | ⟨h1, h2, rfl⟩
  · rw [if_neg (show ¬ ((0 : Int) ≤ -1 ∧ (-1 : Int) < -1) by omega), if_pos (show (-1 : Int) < 0 by omega)]
    by_cases hL : L = []
    · rw [if_pos hL]
      exact ⟨k, rfl, hk⟩
    · rw [if_neg hL]
      obtain ⟨p, e, hp, _⟩ := hat 0 (List.length_pos_iff.2 hL)
      have e' : atM L 0 = (p : Int) := e
      rw [e']
      exact ⟨p, rfl, hp⟩
  · rcases bM with e | ⟨j, rfl, hj, hq⟩
    · omega
    · obtain ⟨p, e, hp, hL⟩ := hat j hj
      rw [hL] at hq
      have hq' : qK (keysO os) [tmplB] (p : Int) = true := hq
      have ho : os[p]? = some os[p] := List.getElem?_eq_getElem hp
      have hof : isOfO os[p] [tmplB] = true := by rw [← qK_of ho]; exact hq'
      have hin : os[p].inner ≠ -1 := ((hone _ (List.getElem_mem hp)).inner).2 hof
      rw [if_pos ⟨by omega, h2⟩, e]
      rcases hs.inner p _ ho with e1 | ⟨e1, m, hm, hh⟩
      · exact absurd e1 hin
      · exact ⟨p + 1, by rw [innerO_of ho, e1]; rfl, (List.getElem?_eq_some_iff.1 hm).1⟩
  · rcases bT with e | ⟨j, rfl, hj, hq⟩
    · omega
    · obtain ⟨p, e, hp, hL⟩ := hat j hj
      rw [hL] at hq
      have hq' : qK (keysO os) [tableB] (p : Int) = true := hq
      have hno : qK (keysO os) [tmplB] (p : Int) = false := qK_apart _ _ hq'
      have ho : os[p]? = some os[p] := List.getElem?_eq_getElem hp
      rw [if_neg (show ¬ (0 ≤ zM ∧ (j : Int) < zM) by omega), if_neg (show ¬ ((j : Int) < 0) by omega), e]
      by_cases hu : upIO os (p : Int) = -1
      · have hu2 : ¬ (upIO os (p : Int) ≠ -1) := fun h => h hu
        rw [if_neg hu2]
        by_cases hj0 : j = 0
        · subst hj0
          rw [if_neg (show ¬ ((0 : Int) < ((0 : Nat) : Int)) by omega)]
          exact ⟨k, rfl, hk⟩
        · rw [if_pos (show (0 : Int) < (j : Int) by omega)]
          obtain ⟨p2, e2, hp2, _⟩ := hat (j - 1) (by omega)
          have e3 : atM L ((j : Int) - 1) = (p2 : Int) := by rw [← e2]; congr 1; omega
          rw [e3]
          exact ⟨p2, rfl, hp2⟩
      · rw [if_pos hu]
        rw [upIO_of ho] at hu ⊢
        rcases hs.up p _ ho with e4 | ⟨p2, m, e4, hm, _⟩
        · exact absurd e4 hu
        · rw [e4]
          have hp2 := (List.getElem?_eq_some_iff.1 hm).1
          exact ⟨p2, rfl, hp2⟩

theorem inner_iff {os : List OneM} (hone : ∀ o ∈ os, OneI o) {q : Nat} {o : OneM} (ho : os[q]? = some o) : (isOfO o [tmplB] = true ∧ o.inner ≠ -1) ∨ (isOfO o [tmplB] = false ∧ o.inner = -1) := by
  have hi := (hone o (List.mem_of_getElem? ho)).inner
  cases hc : isOfO o [tmplB] with
  | true => exact .inl ⟨rfl, hi.2 hc⟩
  | false =>
    refine .inr ⟨rfl, ?_⟩
    cases Classical.em (o.inner = -1) with
    | inl h => exact h
    | inr h => rw [hi.1 h] at hc; cases hc

/-- Both answer the same place. -/
theorem both_spots {w : World} {os : List OneM} {L : List Int} (hone : ∀ o ∈ os, OneI o) (hg : Good (keysO os) L) (hsim : ∃ ns, Sim ns os) (t : Int) (b : Bool) : ∃ sa sb ec : Int, (ec = 0 ∨ ec = 6) ∧
    (∀ (bA bR bK bW : Nat) (W : World), Env w W [aO _ bA os, rO _ bR os, stOb _ bK bA (keysO os) L, rsO _ bW bR L] → Calls Try.prog 30 #[.pointer (some ⟨bA, 0, none⟩), .pointer (some ⟨bK, 0, none⟩), .int .i64 t, .bool b] W fun e w' => e = .returned (.tuple #[.agg #[.int .i64 sa, .int .i64 sb], .int .i64 ec]) ∧ Env w w' [aO _ bA os, rO _ bR os, stOb _ bK bA (keysO os) L, rsO _ bW bR L]) ∧
    (∀ (bA bR bK bW : Nat) (W : World), Env w W [aO _ bA os, rO _ bR os, stOb _ bK bA (keysO os) L, rsO _ bW bR L] → Calls Try.prog 31 #[.pointer (some ⟨bR, 0, none⟩), .pointer (some ⟨bW, 0, none⟩), .int .i64 t, .bool b] W fun e w' => e = .returned (.tuple #[.agg #[.int .i64 sa, .int .i64 sb], .int .i64 ec]) ∧ Below W.heap.size W w') := by
  cases ht : hasO os t with
  | false =>
    refine ⟨0, 0, 6, .inr rfl, fun bA bR bK bW W hW => ?_, fun bA bR bK bW W hW => ?_⟩
    · exact spot_none hW (i := 0) (j := 2) (bA := bA) (bK := bK) rfl rfl (by decide) hg ht b
    · exact xspot_none hW (i := 1) (bR := bR) rfl ht _ b
  | true =>
    obtain ⟨k, o, rfl, ho⟩ := hasO_yes ht
    have hkl := (List.getElem?_eq_some_iff.1 ho).1
    cases b with
    | false =>
      rcases inner_iff hone ho with ⟨h1, h2⟩ | ⟨h1, h2⟩
      · refine ⟨o.inner, -1, 0, .inl rfl, fun bA bR bK bW W hW => ?_, fun bA bR bK bW W hW => ?_⟩
        · have := spot_plain hW (i := 0) (j := 2) (bA := bA) (bK := bK) rfl rfl (by decide) hg ho
          rw [h1, if_pos rfl] at this
          exact this
        · exact xspot_in hW (i := 1) (j := 3) (bR := bR) (bW := bW) rfl rfl (by decide) hg ho false (fp := k) (fb := -1) (oq := o) rfl ho _ _ (.inr ⟨h2, rfl, rfl⟩)
      · refine ⟨(k : Int), -1, 0, .inl rfl, fun bA bR bK bW W hW => ?_, fun bA bR bK bW W hW => ?_⟩
        · have := spot_plain hW (i := 0) (j := 2) (bA := bA) (bK := bK) rfl rfl (by decide) hg ho
          rw [h1, if_neg (by decide)] at this
          exact this
        · exact xspot_in hW (i := 1) (j := 3) (bR := bR) (bW := bW) rfl rfl (by decide) hg ho false (fp := k) (fb := -1) (oq := o) rfl ho _ _ (.inl ⟨h2, rfl, rfl⟩)
    | true =>
      obtain ⟨ns, hs⟩ := hsim
      obtain ⟨hw, p1, hp1, hl1⟩ := ways_same hs hg hone hkl
      obtain ⟨p2, hp2, hl2⟩ := ways_doc hs hg hone hkl
      have key : ∃ (fp : Nat) (fb : Int) (dp : Nat) (db : Int), (if isOfO o partsB then progF os L (k : Int) else ((k : Int), -1)) = ((fp : Int), fb) ∧ fp < os.length ∧ (if true && isOfO o partsB then docF os L (k : Int) else ((k : Int), -1)) = ((dp : Int), db) ∧ dp < os.length ∧ outP os ((fp : Int), fb) = outD os ((dp : Int), db) := by
        rw [Bool.true_and]
        cases hc : isOfO o partsB with
        | true =>
          have e1 : progF os L (k : Int) = ((p1 : Int), (progF os L (k : Int)).2) := by rw [← hp1]
          have e2 : docF os L (k : Int) = ((p2 : Int), (docF os L (k : Int)).2) := by rw [← hp2]
          rw [if_pos rfl, if_pos rfl]
          refine ⟨p1, _, p2, _, e1, hl1, e2, hl2, ?_⟩
          rw [← e1, ← e2]
          exact hw
        | false =>
          rw [if_neg (by decide), if_neg (by decide)]
          exact ⟨k, -1, k, -1, rfl, hkl, rfl, hkl, out_same hone hkl _⟩
      obtain ⟨fp, fb, dp, db, e1, l1, e2, l2, e3⟩ := key
      have ho1 : os[fp]? = some os[fp] := List.getElem?_eq_getElem l1
      have ho2 : os[dp]? = some os[dp] := List.getElem?_eq_getElem l2
      refine ⟨(outP os ((fp : Int), fb)).1, (outP os ((fp : Int), fb)).2, 0, .inl rfl, fun bA bR bK bW W hW => ?_, fun bA bR bK bW W hW => ?_⟩
      · have := spot_foster hW (i := 0) (j := 2) (bA := bA) (bK := bK) rfl rfl (by decide) hg ho e1 ho1
        have e4 : (if isOfO os[fp] [tmplB] then spotV os[fp].inner (-1) else spotV fp fb) = spotV (outP os ((fp : Int), fb)).1 (outP os ((fp : Int), fb)).2 := by
          unfold outP
          simp only
          rw [qK_of ho1, innerO_of ho1]
          cases isOfO os[fp] [tmplB] <;> rfl
        rw [e4] at this
        exact this
      · refine xspot_in hW (i := 1) (j := 3) (bR := bR) (bW := bW) rfl rfl (by decide) hg ho true (fp := dp) (fb := db) (oq := os[dp]) e2 ho2 _ _ ?_
        rw [e3]
        unfold outD
        simp only
        rw [innerO_of ho2]
        by_cases hi : os[dp].inner = -1
        · left
          rw [if_neg (fun h => h hi)]
          exact ⟨hi, rfl, rfl⟩
        · right
          rw [if_pos hi]
          exact ⟨hi, rfl, rfl⟩
end Go.Proofs.Ytmllhebmaldgfaa
/-
  PlaceSpots, walked.
-/
namespace Go.Proofs.Ytmllhebmaldgfaa
open Go.RowKit

set_option maxHeartbeats 4000000 in
set_option maxRecDepth 100000 in
theorem spots_walk (l : List ActM) (a : Option Addr) (cap : Nat) (t : Int) (b : Bool) (w : World) (hin : ActsIn w a l) (hl : l.length ≤ 140737488351232) :
    Calls Try.prog 7 #[.slice a l.length cap, .int .i64 t, .bool b] w fun e w' => e = .returned (.bool true) ∧ Below w.heap.size w w' := by
  have HW := hide (world_any w a l cap hin hl)
  have hwi : WI (worldW (l.take 200)) 200 := by
    by_cases h : 200 ≤ l.length
    · exact WI.all l 200 h
    · have := WI.all l l.length (Nat.le_refl _)
      rw [List.take_of_length_le (Nat.le_refl _)] at this
      rw [List.take_of_length_le (by omega)]
      exact ⟨this.good, by have := this.few; omega, this.one⟩
  generalize worldW (l.take 200) = s at *
  obtain ⟨os, L⟩ := s
  unfold wObs at HW
  simp only at HW
  have HB := hide (fun (hsim : ∃ ns, Sim ns os) => both_spots (w := w) hwi.one hwi.good hsim t b)
  have HAW := hide (fun (W : World) => pawake_any W)
  have hq := fun (a b c d : Int) (W : World) => eqSpot a b c d W
  clear hin hwi hl
  go_enter Try.func7, Try.ntmps7
  go_wp2_with (first
    | (go_at_call 29; refine (unhide HW).mono ?_; rintro e w1 ⟨bA, bR, bK, bW, rfl, hv⟩; have H1 := hide hv; obtain ⟨sa, sb, ec, hec, hS, hX⟩ := (unhide HB) (hv.sim (i := 0) (bA := bA) rfl); have HS := hide (hS bA bR bK bW); have HX := hide (hX bA bR bK bW); have hec0 : 0 ≤ ec := (by omega); have hec6 : ec ≤ 6 := (by omega); clear hv hS hX hec)
    | (go_at_call 30; refine ((unhide HS) _ (unhide H1)).mono ?_; rintro e w2 ⟨rfl, hv⟩; have H2 := hide hv; clear hv)
    | (go_at_call 31; refine ((unhide HX) _ ((unhide H2).more (below_new _ _))).mono ?_; rintro e w3 ⟨rfl, hb⟩; have HX3 := hide ((Sp.new w2 sa sb).more hb); have H3 := hide (((unhide H2).more (below_new _ _)).more hb); clear hb; obtain ⟨q0, q1, q2, q3⟩ := (unhide HX3).cells; obtain ⟨y0, y1, y2, y3⟩ := ((unhide HX3).alloc (.cells #[.int .i64 sa, .int .i64 sb] 60)).cells)
    | (go_at_call 32; refine ((unhide HAW) _).mono ?_; rintro e w4 ⟨rfl, hb⟩; have H4 := hide (((unhide H3).more (below_new _ _)).more hb); clear hb))
  go_ret
  exact ⟨rfl, (unhide H4).bel⟩
end Go.Proofs.Ytmllhebmaldgfaa
