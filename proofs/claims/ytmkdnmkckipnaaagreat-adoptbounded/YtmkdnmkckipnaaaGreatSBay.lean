/-
  
-/
import Derived.Test.YtmkdnmkckipnaaaGreatSBax
namespace Go.Proofs.YtmkdnmkckipnaaaGreat
open Go.RowKit

section
variable {w wx : World} {obs : List (Ob w.heap.size)} {i j bA bR bK bW : Nat} {os : List OneM} {L : List Int}
theorem foster_any (h : Env w wx obs) (hi : obs[i]? = some (aO _ bA os)) (hj : obs[j]? = some (stOb _ bK bA L)) (hij : i ≠ j) (hg : Good (keysO os) L) (t : Int) :
    Calls Tryz.prog 167 #[.pointer (some ⟨bA, 0, none⟩), .pointer (some ⟨bK, 0, none⟩), .int .i64 t] wx fun e w' => e = .returned (spotV (progF os L t).1 (progF os L t).2) ∧ Below wx.heap.size wx w' := by
  have hat : ∀ z : Nat, z < L.length → ∃ p : Nat, L[z]? = some (p : Int) ∧ p < os.length ∧ atM L (z : Int) = (p : Int) := by
    intro z hz
    obtain ⟨p, e, hp⟩ := elOf_nat (hg.el _ (List.getElem_mem hz))
    rw [keysO_len] at hp
    exact ⟨p, by rw [List.getElem?_eq_getElem hz, e], hp, by rw [atM_in (List.getElem?_eq_getElem hz)]; exact e⟩
  rcases scanL_lt (qK (keysO os) [tableB, tmplB]) L L.length with hs | ⟨z, hs, hzl, hq⟩
  · have e : progF os L t = (if L = [] then t else atM L 0, -1) := by unfold progF; rw [if_pos hs]
    rw [e]
    refine foster_none h hi hj hij hg t hs (atM L 0) (-1) rfl rfl _ _ ?_
    by_cases hL : L = []
    · left
      subst hL
      exact ⟨rfl, rfl, rfl, rfl⟩
    · right
      rw [if_neg hL]
      obtain ⟨p, _, _, e2⟩ := hat 0 (List.length_pos_iff.2 hL)
      have e3 : atM L 0 = (p : Int) := e2
      exact ⟨by rw [e3]; omega, rfl, rfl⟩
  · obtain ⟨p, hz, hp, hpa⟩ := hat z hzl
    have ho : os[p]? = some os[p] := List.getElem?_eq_getElem hp
    rw [hz] at hq
    have hq2 : isOfO os[p] [tableB, tmplB] = true := by rw [← qK_of ho]; exact hq
    have hkt : qK (keysO os) [tmplB] (p : Int) = isOfO os[p] [tmplB] := qK_of ho _
    have hup : upIO os (p : Int) = os[p].up := upIO_of ho
    unfold progF
    rw [hs, if_neg (show ¬ ((z : Int) = -1) by omega), hpa, hkt, hup]
    cases hT : isOfO os[p] [tmplB] with
    | true =>
      rw [if_pos rfl]
      exact foster_tmpl h hi hj hij hg t hs hz ho hT (p : Int) (-1) rfl rfl _ _ (.inr ⟨by omega, rfl, rfl⟩)
    | false =>
      rw [if_neg (by decide)]
      have hT2 : hasT [tmplB] os[p].name = false := by
        unfold isOfO at hq2 hT
        simp only [Bool.and_eq_true] at hq2
        rw [hq2.1.1, hq2.1.2] at hT
        simpa using hT
      by_cases hu : os[p].up = -1
      · rw [if_neg (fun hh => hh hu)]
        by_cases hz0 : z = 0
        · subst hz0
          rw [if_pos (show (((0 : Nat) : Int)) = 0 from rfl)]
          exact foster_down h hi hj hij hg t hs hz ho hT2 hu (atM L (((0 : Nat) : Int) - 1)) (-1) rfl rfl _ _ (.inl ⟨rfl, rfl, rfl, rfl⟩)
        · rw [if_neg (show ¬ ((z : Int) = 0) by omega)]
          obtain ⟨p2, _, _, e2⟩ := hat (z - 1) (by omega)
          have e3 : atM L ((z : Int) - 1) = (p2 : Int) := by rw [← e2]; congr 1; omega
          exact foster_down h hi hj hij hg t hs hz ho hT2 hu (atM L ((z : Int) - 1)) (-1) rfl rfl _ _ (.inr ⟨by rw [e3]; omega, rfl, rfl⟩)
      · rw [if_pos hu]
        exact foster_up h hi hj hij hg t hs hz ho hT2 hu os[p].up (p : Int) rfl rfl _ _ (.inr ⟨by omega, rfl, rfl⟩)

def partsB : List ByteArray := [⟨#[116, 97, 98, 108, 101]⟩, ⟨#[116, 98, 111, 100, 121]⟩, ⟨#[116, 102, 111, 111, 116]⟩, ⟨#[116, 104, 101, 97, 100]⟩, ⟨#[116, 114]⟩]
theorem named5 (h : Env w wx obs) (hi : obs[i]? = some (aO _ bA os)) {k : Nat} {o : OneM} (ho : os[k]? = some o) (ob : Obj) :
    Calls Tryz.prog 166 #[.pointer (some ⟨bA, 0, none⟩), .int .i64 k, .slice (some ⟨wx.heap.size + 1, 0, none⟩) 5 5] ((wx.alloc ob).alloc (.cells #[.string ⟨#[116, 97, 98, 108, 101]⟩, .string ⟨#[116, 98, 111, 100, 121]⟩, .string ⟨#[116, 102, 111, 111, 116]⟩, .string ⟨#[116, 104, 101, 97, 100]⟩, .string ⟨#[116, 114]⟩] 9)) fun e w' => e = .returned (.bool (isOfO o partsB)) ∧ Below (wx.alloc ob).heap.size (wx.alloc ob) w' := by
  have h1 := h.more (below_new wx ob)
  have := pNamed_any (h1.more (below_new _ (.cells (sRow partsB) 9))) hi ho partsB (by simp [partsB]) (wx.alloc ob).heap.size (tab_new (wx.alloc ob) partsB 9)
  rw [show (some (⟨(wx.alloc ob).heap.size, 0, none⟩ : Addr)) = some ⟨wx.heap.size + 1, 0, none⟩ by simp] at this
  refine Calls.mono this ?_
  rintro e w' ⟨rfl, hb⟩
  exact ⟨rfl, (below_new _ _).trans (hb.mono (by simp))⟩

/-- Where Spot leads, with foster parents. -/
def spotP (os : List OneM) (L : List Int) (k : Nat) : Int × Int := outP os (if qK (keysO os) partsB (k : Int) then progF os L (k : Int) else ((k : Int), -1))

set_option maxHeartbeats 2000000 in
set_option maxRecDepth 100000 in
theorem spot_foster (h : Env w wx obs) (hi : obs[i]? = some (aO _ bA os)) (hj : obs[j]? = some (stOb _ bK bA L)) (hij : i ≠ j) (hg : Good (keysO os) L) {k : Nat} {o : OneM} (ho : os[k]? = some o) {fp : Nat} {fb : Int} {oq : OneM} (hpos : (if isOfO o partsB then progF os L (k : Int) else ((k : Int), -1)) = ((fp : Int), fb)) (hoq : os[fp]? = some oq) :
    Calls Tryz.prog 132 #[.pointer (some ⟨bA, 0, none⟩), .pointer (some ⟨bK, 0, none⟩), .int .i64 k, .bool true] wx fun e w' => e = .returned (.tuple #[if isOfO oq [tmplB] then spotV oq.inner (-1) else spotV fp fb, .int .i64 0]) ∧ Env w w' obs := by
  have HE := hide h
  have HA := hide (fun W (hW : Env w W obs) => amadeA hW hi)
  have HS := hide (fun W (hW : Env w W obs) => amadeS hW hi hj hij hg)
  have HT := hide (fun W (hW : Env w W obs) ob x => athere1b hW hi ob x)
  have HO := hide (fun W (hW : Env w W obs) => out_any hW hi hoq fb)
  have HY := hide (hasO_of ho)
  have HAT := hide (fun (W : World) (x : Int) => atEnd_any W x)
  have HN := hide (fun W (hW : Env w W obs) ob => named5 hW hi ho ob)
  have HF := hide (fun W (hW : Env w W obs) => foster_any hW hi hj hij hg (k : Int))
  obtain ⟨sa, sb, hsp⟩ : ∃ sa sb, (if isOfO oq [tmplB] then spotV oq.inner (-1) else spotV fp fb) = spotV sa sb := by
    split
    · exact ⟨_, _, rfl⟩
    · exact ⟨_, _, rfl⟩
  rw [hsp] at HO ⊢
  clear h hi hj hg ho hsp hoq
  cases hc : isOfO o partsB with
  | true =>
    rw [hc, if_pos rfl] at hpos
    rw [hc] at HN
    rw [hpos] at HF
    unfold spotV at HO HAT HF ⊢
    clear hc hpos
    go_enter Tryz.func132, Tryz.ntmps132
    go_wp2_with (first
      | (go_at_call 162; refine ((unhide HA) _ ((unhide HE).more (below_new _ _))).mono ?_; rintro e w1 ⟨rfl, rfl⟩)
      | (go_at_call 163; refine ((unhide HS) _ ((unhide HE).more (below_new _ _))).mono ?_; rintro e w2 ⟨rfl, rfl⟩)
      | (go_at_call 164; refine ((unhide HT) _ (unhide HE) _ _).mono ?_; rintro e w3 ⟨rfl, rfl⟩; rw [unhide HY])
      | (go_at_call 165; refine ((unhide HAT) _ _).mono ?_; rintro e w4 ⟨rfl, hb4⟩; have HS4 := hide (((Sp.new wx 0 0).alloc _).more hb4); clear hb4)
      | (go_at_call 166; refine ((unhide HN) _ ((unhide HE).more (unhide HS4).bel) _).mono ?_; rintro e w5 ⟨rfl, hb⟩; have HS5 := hide (((unhide HS4).alloc _).more hb); have HA5 := hide ((show Sp wx (w4.alloc (.cells #[.int .i64 k, .int .i64 (-1)] 157)) w4.heap.size k (-1) from ⟨((unhide HS4).alloc _).bel, (unhide HS4).bel.size, Box2.new w4 k (-1)⟩).more hb); have HNE := hide (show wx.heap.size ≠ w4.heap.size from by have h1 := lt_of_block (unhide HS4).box; omega); clear hb; obtain ⟨q0, q1, q2, q3⟩ := (unhide HA5).cells)
      | (go_at_call 167; refine ((unhide HF) _ ((unhide HE).more (unhide HS5).bel)).mono ?_; rintro e w6 ⟨rfl, hb⟩; have HS6 := hide ((unhide HS5).more hb); have HA6 := hide ((unhide HA5).more hb); clear hb q0 q1 q2 q3; obtain ⟨q0, q1, q2, q3⟩ := (unhide HA6).cells)
      | (go_at_call 168; refine ((unhide HO) _ ((unhide HE).more ((unhide HA6).put fp fb).bel)).mono ?_; rintro e w7 ⟨rfl, hb⟩; have HS7 := hide (((unhide HS6).far (unhide HA6).le (unhide HNE) fp fb).more hb); clear hb q0 q1 q2 q3; obtain ⟨q0, q1, q2, q3⟩ := (unhide HS7).cells))
    have R := (unhide HS7).put sa sb
    exact bodyPost_ret (spot_ret (p := 8) (u := 9) Tryz.results132 (b := wx.heap.size) R.box _ _ rfl rfl) rfl ⟨rfl, (unhide HE).more R.bel⟩
  | false =>
    rw [hc, if_neg (by decide)] at hpos
    rw [hc] at HN
    obtain ⟨e1, e2⟩ := Prod.mk.inj hpos
    have e3 : k = fp := by omega
    subst e3
    subst e2
    unfold spotV at HO HAT ⊢
    clear hc hpos e1 HF
    go_enter Tryz.func132, Tryz.ntmps132
    go_wp2_with (first
      | (go_at_call 162; refine ((unhide HA) _ ((unhide HE).more (below_new _ _))).mono ?_; rintro e w1 ⟨rfl, rfl⟩)
      | (go_at_call 163; refine ((unhide HS) _ ((unhide HE).more (below_new _ _))).mono ?_; rintro e w2 ⟨rfl, rfl⟩)
      | (go_at_call 164; refine ((unhide HT) _ (unhide HE) _ _).mono ?_; rintro e w3 ⟨rfl, rfl⟩; rw [unhide HY])
      | (go_at_call 165; refine ((unhide HAT) _ _).mono ?_; rintro e w4 ⟨rfl, hb4⟩; have HS4 := hide (((Sp.new wx 0 0).alloc _).more hb4); clear hb4)
      | (go_at_call 166; refine ((unhide HN) _ ((unhide HE).more (unhide HS4).bel) _).mono ?_; rintro e w5 ⟨rfl, hb⟩; have HS5 := hide (((unhide HS4).alloc _).more hb); have HA5 := hide ((show Sp wx (w4.alloc (.cells #[.int .i64 k, .int .i64 (-1)] 157)) w4.heap.size k (-1) from ⟨((unhide HS4).alloc _).bel, (unhide HS4).bel.size, Box2.new w4 k (-1)⟩).more hb); have HNE := hide (show wx.heap.size ≠ w4.heap.size from by have h1 := lt_of_block (unhide HS4).box; omega); clear hb; obtain ⟨q0, q1, q2, q3⟩ := (unhide HA5).cells)
      | (go_at_call 168; refine ((unhide HO) _ ((unhide HE).more (unhide HA5).bel)).mono ?_; rintro e w7 ⟨rfl, hb⟩; have HS7 := hide ((unhide HS5).more hb); clear hb q0 q1 q2 q3; obtain ⟨q0, q1, q2, q3⟩ := (unhide HS7).cells))
    have R := (unhide HS7).put sa sb
    exact bodyPost_ret (spot_ret (p := 8) (u := 9) Tryz.results132 (b := wx.heap.size) R.box _ _ rfl rfl) rfl ⟨rfl, (unhide HE).more R.bel⟩
end
end Go.Proofs.YtmkdnmkckipnaaaGreat
