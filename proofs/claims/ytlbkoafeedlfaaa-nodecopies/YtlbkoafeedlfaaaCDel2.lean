/-
  DelAttr.
-/
import Derived.Test.YtlbkoafeedlfaaaCDel
import Derived.Test.YtlbkoafeedlfaaaCAttr2
import Derived.Deep.RegionWith
namespace Go.Proofs.Ytlbkoafeedlfaaa
open Go.RowKit

set_option maxHeartbeats 1000000 in
theorem delAttr_may {w : World} {base bA bS g cap : Nat} {ns : List NodeM} (h : Ar w base bA bS g cap ns) (k space : Int) (name : ByteArray) (hm : mayAttrM ns k ≠ 0) :
    Calls Try.prog 45 #[.pointer (some ⟨bA, 0, none⟩), .int .i64 k, .int .i64 space, .string name] w fun e w' => e = .returned (.int .i64 (mayAttrM ns k)) ∧ w = w' := by
  have HM := hide (mayAttr_any h k)
  generalize mayAttrM ns k = e at *
  have he : (e != 0) = true := by simpa using hm
  clear h hm
  go_enter Try.func45, Try.ntmps45
  go_wp2_with (go_at_call 96; refine (unhide HM).mono ?_; rintro e w' ⟨rfl, rfl⟩)
  go_ret
  exact ⟨rfl, rfl⟩

set_option maxHeartbeats 2000000 in
theorem delAttr_none {w : World} {base bA bS g cap : Nat} {ns : List NodeM} (h : Ar w base bA bS g cap ns) (i : Nat) (n : NodeM) (hi : ns[i]? = some n) (hk : n.kind = 1) (space : Int) (name : ByteArray) (hj : idxM (sameKey space name) n.attrs = -1) :
    Calls Try.prog 45 #[.pointer (some ⟨bA, 0, none⟩), .int .i64 i, .int .i64 space, .string name] w fun e w' => e = .returned (.int .i64 1) ∧ Below w.heap.size w w' := by
  have hlt : i < ns.length := (List.getElem?_eq_some_iff.1 hi).1
  have hmost := h.most
  have hfew := h.few i n hi
  have HM := hide (mayAttr_any h i)
  rw [mayAttr_elem hi hk] at HM
  obtain ⟨ao, cp, hav, hin⟩ := seg_attrs (h.attrs i n hi)
  have HF := hide (findAttr_any w ao cp n.attrs hin (by unfold maxLen; omega) space name)
  rw [hj] at HF
  have hA := h.cA
  have hS := h.cS
  have c3 := (h.cells12 hi).2.2.2.1
  rw [hav] at c3
  clear h hi hav hin hj hk
  go_enter Try.func45, Try.ntmps45
  go_wp2_with (first
    | (go_at_call 96; refine (unhide HM).mono ?_; rintro e w' ⟨rfl, rfl⟩)
    | (go_at_call 98; refine (unhide HF).mono ?_; rintro e w' ⟨rfl, hb⟩))
  go_ret
  exact ⟨rfl, hb⟩

theorem delAttr_close {w w3 w4 : World} {base bA bS g cap : Nat} {ns : List NodeM} (hb : Below w.heap.size w w3) (h : Ar w3 base bA bS g cap ns) {i : Nat} {n : NodeM} (hi : ns[i]? = some n) {ga oa cp N j : Nat} (hN : N < 1024) (hlen : n.attrs.length = N + 1) (hj : j ≤ N)
    (hav : n.av = .slice (some ⟨ga, oa, none⟩) (N + 1) cp) (hown : Seg w4 base (.slice (some ⟨ga, oa, none⟩) N cp) N (attrRow (n.attrs.eraseIdx j))) (hgrow : w3.drew.grownBy w4 (some ga)) (hout : Out (.slice (some ⟨ga, oa, none⟩) (N + 1) cp) w3 w4) :
    Ar (w4.setCell ⟨g, i * 12 + 3, none⟩ (.slice (some ⟨ga, oa, none⟩) N cp)) base bA bS g cap (ns.set i { n with av := .slice (some ⟨ga, oa, none⟩) N cp, attrs := n.attrs.eraseIdx j }) ∧
      Mod (fun k => n.av.ownBlock = some k ∨ k = g) w (w4.setCell ⟨g, i * 12 + 3, none⟩ (.slice (some ⟨ga, oa, none⟩) N cp)) := by
  have hl : (n.attrs.eraseIdx j).length = N := by rw [List.length_eraseIdx_of_lt (by omega), hlen]; rfl
  refine ⟨h.newAttrs hi _ _ (by rw [hl]; omega) (by rw [hl]; exact hown) (by rw [hav]; exact hout) ?_ ?_ ?_, ?_⟩
  · intro k hk hne
    rw [hgrow.block k (h.foot_lt hk).2 (fun e => hne (by rw [hav]; simp [Value.ownBlock] at e ⊢; exact e.symm))]
    rfl
  · intro k hk
    exact .inl (by rw [hav]; simpa [Value.ownBlock] using hk)
  · intro k o m c e _
    cases e
    exact ⟨_, hav⟩
  · refine (Mod.of_below hb).trans (Mod.trans ?_ (Mod.setCell _ _ _ (.inr rfl)))
    exact (Mod.of_below (Below.refl _ w3).drew).trans (Mod.grown hgrow (fun k hk => .inl (by rw [hav]; simpa [Value.ownBlock] using hk)))

end Go.Proofs.Ytlbkoafeedlfaaa
