/-
  Package sniff's scanner: value, and an attribute.
-/
import Derived.Test.YtmikcdmlhocgbaaDoorSg
namespace Go.Proofs.YtmikcdmlhocgbaaDoor
open Go.RowKit Go.Lib

section
variable {w w' : World} {b : Nat} {t : ByteArray} {k : Nat}

theorem among_in {t : ByteArray} {k : Nat} {cs : List UInt8} (h : amongM t.data.toList k cs = true) : k < t.size := by
  by_cases hk : k < t.size
  · exact hk
  · rw [amongM_no hk] at h; cases h

set_option maxHeartbeats 1000000 in
theorem value_any (h : Sc w b t k) (hk : k ≤ t.size) (hs : Small t) :
    Calls Tryd.prog 69 #[.pointer (some ⟨b, 0, none⟩)] w fun e w' => e = .returned (.tuple #[.string ⟨(valueV t.data.toList k).toArray⟩, .bool (valueO t.data.toList k)]) ∧ Gone w w' b t (valueE t.data.toList k) := by
  obtain ⟨c0, c1, cf⟩ := h.cells
  have HA := hide (among0 h ⟨#[34, 39]⟩ hs hk)
  change Hid (Calls Tryd.prog 40 _ w fun e w' => e = .returned (.bool (amongM t.data.toList k quotesL)) ∧ w' = w) at HA
  unfold valueV valueO valueE
  have HH := hide h
  cases ha : amongM t.data.toList k quotesL with
  | true =>
    rw [ha] at HA
    have hlt := among_in ha
    rw [if_pos rfl, if_pos rfl, if_pos rfl]
    have HQ := hide (quoted_any h hlt hs)
    have HSH := hide (fun x => quoted_short (l := t.data.toList) (x := x) (k := k))
    generalize quotedM t.data.toList k = q at HQ HSH ⊢
    obtain ⟨qo, qe⟩ := q
    simp only at HQ HSH ⊢
    unfold optV at HQ
    have HST : Hid (∀ W, Calls Tryd.prog 80 #[.string ⟨(qo.getD []).toArray⟩] W fun e w' => e = .returned (.string ⟨((qo.getD []).map low).toArray⟩) ∧ Below W.heap.size W w') := hide (fun W => smallText_any ⟨(qo.getD []).toArray⟩ W (by have h8 := optV_size (unhide HSH); rw [len_data] at h8; have h9 := hs; unfold Small at h9; omega))
    clear h cf hs hk ha hlt
    go_enter Tryd.func69, Tryd.ntmps69
    go_wp2_with (first
      | (go_at_call 40; refine (unhide HA).mono ?_; rintro e w1 ⟨rfl, rfl⟩)
      | (go_at_call 50; refine (unhide HQ).mono ?_; rintro e w2 ⟨rfl, h2⟩; have HG2 := hide h2; clear h2)
      | (go_at_call 80; refine ((unhide HST) _).mono ?_; rintro e w3 ⟨rfl, h3⟩; have HB3 := hide h3; clear h3))
    go_ret2
    exact ⟨rfl, (unhide HG2).below (unhide HB3)⟩
  | false =>
    rw [ha] at HA
    rw [if_neg (by simp), if_neg (by simp), if_neg (by simp), len_data]
    have hle := passP_le (p := wordP) (l := t.data.toList) (k := k) (by rw [len_data]; exact hk)
    rw [len_data] at hle
    have HPW := hide (passGone (passWord h hs hk) (Gone.refl h))
    have HX := hide (show (⟨(((t.data.toList.take (passP wordP t.data.toList k)).drop k).map low).toArray⟩ : ByteArray) = ⟨((t.extract k (passP wordP t.data.toList k)).data.toList.map low).toArray⟩ by rw [extract_list])
    have HST := hide (fun W => smallText_any (t.extract k (passP wordP t.data.toList k)) W (extract_small t hs _ _))
    generalize (⟨(((t.data.toList.take (passP wordP t.data.toList k)).drop k).map low).toArray⟩ : ByteArray) = nm at HX ⊢
    rw [← unhide HX] at HST
    clear HX
    generalize passP wordP t.data.toList k = p2 at HPW hle HST ⊢
    have hz1 : (k : Int) ≤ (p2 : Int) := by omega
    have hz2 : (p2 : Int) ≤ (t.size : Int) := by omega
    have HD : Hid (decide (p2 < t.size) = !decide (t.size ≤ p2)) := hide (by
      by_cases hh : t.size ≤ p2
      · rw [decide_eq_true hh, decide_eq_false (by omega)]; rfl
      · rw [decide_eq_false hh, decide_eq_true (by omega)]; rfl)
    clear h cf hs hk ha hle
    go_enter Tryd.func69, Tryd.ntmps69
    go_wp2_with (first
      | (go_at_call 40; refine (unhide HA).mono ?_; rintro e w1 ⟨rfl, rfl⟩)
      | (go_at_call 30; refine (unhide HPW).mono ?_; rintro e w2 ⟨rfl, h2⟩; obtain ⟨d0, d1, _⟩ := h2.sc.cells; have HG2 := hide h2; clear h2))
    go_region_with (first
      | (go_at_call 80; refine ((unhide HST) _).mono ?_; rintro e w3 ⟨rfl, h6⟩; have HG3 := hide (((unhide HG2).dn 1).below h6); have HO := hide (over_any (unhide HG3).sc); clear h6)
      | (go_at_call 20; refine (unhide HO).mono ?_; rintro e w4 ⟨rfl, n, rfl⟩))
    all_goals go_wp2
    all_goals go_ret2
    all_goals rw [unhide HD]
    all_goals exact ⟨rfl, (unhide HG3).dn _⟩
end
end Go.Proofs.YtmikcdmlhocgbaaDoor
