/-
  Inner: what is in a node of an arena, as text.
-/
import Derived.Test.YtfcagiacjpcpeaaVk
import Derived.Test.YtfcagiacjpcpeaaFull2
namespace Go.Proofs.Ytfcagiacjpcpeaa
open Go.RowKit Go.Lib

theorem wstring_any {bA : Nat} {sc : Bool} {B bw : Nat} {l : List UInt8} {w : World} (h : Wr bA sc B bw l w) (hB : B ≤ w.heap.size) : Calls Try.prog 36 #[.pointer (some ⟨bw, 2, none⟩)] w fun e w' => e = .returned (.string ⟨l.toArray⟩) ∧ Below B w w' := by
  rcases h with h | h
  · exact string_any (bokW bA sc) h hB
  · exact string_any (bokW bA sc) h hB
theorem wr_fresh (bA : Nat) (sc : Bool) (B : Nat) (w : World) (hB : B ≤ w.heap.size) : Wr bA sc B w.heap.size [] (w.alloc (.cells #[.pointer (some ⟨bA, 0, none⟩), .bool sc, .pointer none, .slice none 0 0] 67)) :=
  .inl ⟨hB, .slice none 0 0, heap_alloc_new w _, World.ownsRowF_nil _ _ _ _, by simp [Value.ownBlock]⟩

set_option maxHeartbeats 4000000 in
theorem inner_in {W0 : World} {base bA : Nat} {ns : List NodeM} {os : List OneM} {F : Nat → Prop} (h : ArS W0 base bA ns F) (hs : Sim ns os) {i : Nat} {o : OneM} (ho : os[i]? = some o) (sc : Bool) (hlen : costN os (os.length + 1) i + 100 ≤ 140737488355328) :
    Calls Try.prog 10 #[.pointer (some ⟨bA, 0, none⟩), .int .i64 i, .bool sc] W0 fun e w' => e = .returned (.tuple #[.string ⟨(inL os sc (os.length + 1) i).toArray⟩, .int .i64 0]) ∧ Below W0.heap.size W0 w' := by
  have hN := NodeC.of h
  obtain ⟨nd, hnd, sm⟩ := hs.get ho
  obtain ⟨path, hp⟩ := hs.ends i (List.getElem?_eq_some_iff.1 ho).1
  have hA : ∀ (i : Nat) m, ns[i]? = some m → m.attrs.length ≤ 100000 := by
    intro i m hm
    obtain ⟨bS, g, cap, h, _⟩ := h
    have := h.few i m hm
    omega
  have HI := hidE (fun bw => inside_all (bw := bw) (sc := sc) hN hs hA (os.length + 1) i path o nd hp (by omega) ho hnd)
  have HN := hidE (hN W0 (Below.refl _ _) i nd hnd)
  generalize inL os sc (os.length + 1) i = out at HI
  generalize costN os (os.length + 1) i = cost at HI hlen
  have HLEN := hidE hlen
  clear hlen hN hA hp hnd ho hs h sm
  go_enter Try.func10, Try.ntmps10
  go_wp2_with (go_at_call 34; refine (unhidE HN).mono ?_; rintro e w1 ⟨ao, cp, rfl, _, hb1⟩; have HB1 := hidE hb1; clear hb1)
  have hbz := (unhidE HB1).size
  have hbb : Below W0.heap.size W0 ((w1.alloc (.cells #[.int .i64 nd.kind, .int .i64 nd.space, .string nd.name, .slice ao nd.attrs.length cp, .string nd.data, .string nd.system, .int .i64 nd.parent, .int .i64 nd.first, .int .i64 nd.last, .int .i64 nd.prev, .int .i64 nd.next, .int .i64 nd.inner] 60)).alloc (.cells #[.pointer (some ⟨bA, 0, none⟩), .bool sc, .pointer none, .slice none 0 0] 67)) := ((unhidE HB1).alloc hbz _).alloc (by simp; omega) _
  have hw0 := wr_fresh bA sc W0.heap.size (w1.alloc (.cells #[.int .i64 nd.kind, .int .i64 nd.space, .string nd.name, .slice ao nd.attrs.length cp, .string nd.data, .string nd.system, .int .i64 nd.parent, .int .i64 nd.first, .int .i64 nd.last, .int .i64 nd.prev, .int .i64 nd.next, .int .i64 nd.inner] 60)) (by simp; omega)
  rw [show (w1.alloc (.cells #[.int .i64 nd.kind, .int .i64 nd.space, .string nd.name, .slice ao nd.attrs.length cp, .string nd.data, .string nd.system, .int .i64 nd.parent, .int .i64 nd.first, .int .i64 nd.last, .int .i64 nd.prev, .int .i64 nd.next, .int .i64 nd.inner] 60)).heap.size = w1.heap.size + 1 by simp] at hw0
  refine ((unhidE HI) _ _ [] ao cp hbb hw0 (by have := unhidE HLEN; simp; omega)).mono ?_
  rintro e w5 ⟨rfl, hw5, hn5⟩
  rw [List.nil_append] at hw5
  have HS := hidE (wstring_any hw5 (Nat.le_trans hbb.size hn5.size))
  have HB5 := hidE (hbb.trans hn5.below)
  clear hw0 hw5 hn5 hbb
  go_wp2_with (go_at_call 36; refine (unhidE HS).mono ?_; rintro e w6 ⟨rfl, hb6⟩; have HB6 := hidE ((unhidE HB5).trans hb6); clear hb6)
  go_ret2
  exact ⟨rfl, unhidE HB6⟩

set_option maxHeartbeats 1000000 in
theorem inner_no {W0 : World} {base bA : Nat} {ns : List NodeM} {os : List OneM} {F : Nat → Prop} (h : ArS W0 base bA ns F) (hs : Sim ns os) {k : Int} (hk : hasO os k = false) (sc : Bool) :
    Calls Try.prog 10 #[.pointer (some ⟨bA, 0, none⟩), .int .i64 k, .bool sc] W0 fun e w' => e = .returned (.tuple #[.string ⟨#[]⟩, .int .i64 6]) ∧ Below W0.heap.size W0 w' := by
  have HN := hidE (node_no h k (by rw [hs.hasM]; exact hk))
  unfold nodeZ at HN
  clear h hs hk
  go_enter Try.func10, Try.ntmps10
  go_wp2_with (go_at_call 34; refine (unhidE HN).mono ?_; rintro e w1 ⟨rfl, hb1⟩; have HB1 := hidE hb1; clear hb1)
  go_ret2
  exact ⟨rfl, (unhidE HB1).alloc (unhidE HB1).size _⟩
end Go.Proofs.Ytfcagiacjpcpeaa
