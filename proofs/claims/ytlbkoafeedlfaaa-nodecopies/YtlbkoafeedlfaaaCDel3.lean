/-
  DelAttr, where the attribute is there.
-/
import Derived.Test.YtlbkoafeedlfaaaCDel2
namespace Go.Proofs.Ytlbkoafeedlfaaa
open Go.RowKit

set_option maxRecDepth 100000 in
set_option maxHeartbeats 1000000 in
theorem delAttr_found {w : World} {base bA bS g cap : Nat} {ns : List NodeM} (h : Ar w base bA bS g cap ns) (i : Nat) (n : NodeM) (hi : ns[i]? = some n) (hk : n.kind = 1) (space : Int) (name : ByteArray) (j : Nat) (hj : idxM (sameKey space name) n.attrs = j) :
    Calls Try.prog 45 #[.pointer (some ⟨bA, 0, none⟩), .int .i64 i, .int .i64 space, .string name] w fun e w' => e = .returned (.int .i64 0) ∧
      ∃ av, Ar w' base bA bS g cap (ns.set i { n with av := av, attrs := n.attrs.eraseIdx j }) ∧ Mod (fun k => n.av.ownBlock = some k ∨ k = g) w w' ∧ (∀ k, av.ownBlock = some k → n.av.ownBlock = some k ∨ w.heap.size ≤ k) := by
  have hlt : i < ns.length := (List.getElem?_eq_some_iff.1 hi).1
  have hmost := h.most
  have hfew := h.few i n hi
  obtain ⟨j', hj', hjl⟩ := idxM_lt (p := sameKey space name) (l := n.attrs) (by rw [hj]; omega)
  obtain rfl : j = j' := by omega
  obtain ⟨N, hN⟩ : ∃ N, n.attrs.length = N + 1 := ⟨n.attrs.length - 1, by omega⟩
  have HM := hide (mayAttr_any h i)
  rw [mayAttr_elem hi hk] at HM
  obtain ⟨ga, oa, cp, hav, _⟩ := (h.attrs i n hi).form (by omega)
  rw [hN] at hav
  have hin : AttrsIn w (some ⟨ga, oa, none⟩) n.attrs := by
    obtain ⟨a', c', e, hin⟩ := seg_attrs (h.attrs i n hi)
    rw [hav] at e
    simp at e
    rw [e.1]; exact hin
  have HF := hide (findAttr_any w (some ⟨ga, oa, none⟩) cp n.attrs hin (by unfold maxLen; omega) space name)
  rw [hj, hN] at HF
  have hA := h.cA
  have hS := h.cS
  have c3 := (h.cells12 hi).2.2.2.1
  rw [hav] at c3
  have HA := hide h
  have HI := hide hi
  have HV := hide hav
  have HL := hide hN
  have hjN : j ≤ N := by omega
  have hN1 : N < 1024 := by omega
  have hwrap : IntKind.i64.wrap ((j : Int) + 1) = (j : Int) + 1 := by simp [IntKind.wrap, IntKind.bits, IntKind.signed]; omega
  clear h hi hav hin hj hj' hk hfew hN hjl
  go_enter Try.func45, Try.ntmps45
  go_wp2_with (first
    | (go_at_call 96; refine (unhide HM).mono ?_; rintro e w' ⟨rfl, rfl⟩))
  refine (unhide HF).mono ?_
  rintro e w3 ⟨rfl, hb3⟩
  have har3 := (unhide HA).below hb3
  have hA3 := har3.cA
  have hS3 := har3.cS
  have ltA := har3.lt.1
  have ltS := har3.lt.2.1
  have ltg := har3.lt.2.2
  have hfg := har3.fg (i * 12 + 3)
  have g3 := (har3.cells12 (unhide HI)).2.2.2.1
  rw [unhide HV] at g3
  have hown3 := har3.attrs i n (unhide HI)
  rw [unhide HV, unhide HL] at hown3
  have neg : ¬ g = ga := by have := (har3.neAttr (unhide HI)).1; rw [unhide HV] at this; simp [Value.ownBlock] at this; omega
  have neS : ¬ bS = ga := by have := (har3.neAttr (unhide HI)).2.1; rw [unhide HV] at this; simp [Value.ownBlock] at this; omega
  have neA : ¬ bA = ga := by have := (har3.neAttr (unhide HI)).2.2; rw [unhide HV] at this; simp [Value.ownBlock] at this; omega
  have HD := hide (delete_any (w := w3.drew) n.attrs (unhide HL) hown3.drew j hjN hN1)
  have HB3 := hide hb3
  have HA3 := hide har3
  clear hb3 har3 hown3 hA hS c3
  go_wp2_with fail
  go_region_with (go_at_call 100; refine (unhide HD).mono ?_; rintro e w4 ⟨rfl, hown4, hgrow, hout⟩; have HU4 := hide hout; clear hout; have hA4 : w4.cell? ⟨bA, 0, none⟩ = some (.pointer (some ⟨bS, 0, none⟩)) := ((hgrow.cell_far ⟨bA, 0, none⟩ (by simp; omega) (by simp; omega)).trans hA3); have hS4 : w4.cell? ⟨bS, 0, none⟩ = some (.slice (some ⟨g, 0, none⟩) ns.length cap) := ((hgrow.cell_far ⟨bS, 0, none⟩ (by simp; omega) (by simp; omega)).trans hS3); have hG4 : w4.cell? ⟨g, i * 12 + 3, none⟩ = some (.slice (some ⟨ga, oa, none⟩) (N + 1) cp) := ((hgrow.cell_far ⟨g, i * 12 + 3, none⟩ (by simp; omega) (by simp; omega)).trans g3); have hFz4 : w4.frozen? ⟨g, i * 12 + 3, none⟩ = false := ((hgrow.frozen_far ⟨g, i * 12 + 3, none⟩ (by simp; omega) (by simp; omega)).trans hfg); have HO4 := hide hown4; have HG4 := hide hgrow; clear hown4 hgrow)
  all_goals go_wp2
  all_goals go_ret
  all_goals
    have R := delAttr_close (unhide HB3) (unhide HA3) (unhide HI) hN1 (unhide HL) hjN (unhide HV) (unhide HO4) (unhide HG4) (unhide HU4)
    exact ⟨rfl, _, R.1, R.2, fun k hk => .inl (by rw [unhide HV]; simpa [Value.ownBlock] using hk)⟩
end Go.Proofs.Ytlbkoafeedlfaaa
