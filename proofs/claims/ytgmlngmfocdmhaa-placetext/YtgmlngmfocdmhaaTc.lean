import Derived.Test.YtgmlngmfocdmhaaTa
import Derived.Test.YtgmlngmfocdmhaaYf
/-
  Package place: characters at the end of a node: what Chars asks; a new text.
-/
namespace Go.Proofs.Ytgmlngmfocdmhaa
open Go.RowKit

def strE (l : List Int) : ByteArray := ⟨(encL l).toArray⟩
theorem strE_size (l : List Int) : (strE l).size = (encL l).length := rfl

theorem utf8_str {w : World} {a : Option Addr} {l : List Int} (hin : RunesIn w a l) (hl : l.length ≤ 100000) (h0 : l ≠ []) (cap : Nat) :
    Calls Try.prog 18 #[.slice a l.length cap] w fun e w' => ∃ g c, e = .returned (.slice (some ⟨g, 0, none⟩) (encL l).length c) ∧ (convert 55 9 (.slice (some ⟨g, 0, none⟩) (encL l).length c)).run Try.prog w' = .ok (.string (strE l)) w' ∧ Below w.heap.size w w' := by
  refine (utf8_any hin hl cap).mono ?_
  rintro e w' ⟨v, rfl, ho, hb⟩
  have hpos : 0 < (encL l).length := by
    have := (encL_len l).1
    have := List.length_pos_iff.2 h0
    omega
  rcases ho.2 with ⟨rfl, h0⟩ | ⟨g, c, cur, rfl, _, hg, _⟩
  · omega
  · refine ⟨g, c, rfl, ?_, hb⟩
    exact run_convert_bytes_back w' 55 9 5 ⟨g, 0, none⟩ c (encL l) Try.underlying55 Try.underlying5 Try.underlying9 (fun j hj => by
      have := ho.cellAt j (by omega)
      have e : (⟨g, 0, none⟩ : Addr).add j = ⟨g, j, none⟩ := by unfold Addr.add; split <;> simp_all
      rw [e, this]
      simp [Lib.byteCells, List.getElem?_eq_getElem hj])

section
variable {w wx : World} {obs : List (Ob w.heap.size)} {i j bA bR bK bW : Nat} {os : List OneM} {L : List Int}
theorem atext_any (h : Env w wx obs) (hi : obs[i]? = some (aO _ bA os)) (s : ByteArray) :
    Calls Try.prog 31 #[.pointer (some ⟨bA, 0, none⟩), .string s] wx fun e w' => e = .returned (.tuple #[.int .i64 (dataO os 2 s).2.1, .int .i64 (dataO os 2 s).2.2]) ∧ Env w w' (obs.set i (aO _ bA (dataO os 2 s).1)) := by
  obtain ⟨ns, F, h1, hs, h2⟩ := h.a hi
  exact (text_sim h1 hs s).mono fun _ _ ⟨a, b⟩ => ⟨a, h2 _ _ b⟩
theorem asetData_any (h : Env w wx obs) (hi : obs[i]? = some (aO _ bA os)) (k : Int) (s : ByteArray) :
    Calls Try.prog 21 #[.pointer (some ⟨bA, 0, none⟩), .int .i64 k, .string s] wx fun e w' => e = .returned (.int .i64 (setDataE os k s)) ∧ Env w w' (obs.set i (aO _ bA (setDataR os k s))) := by
  obtain ⟨ns, F, h1, hs, h2⟩ := h.a hi
  exact (setData_sim h1 hs k s).mono fun _ _ ⟨a, b⟩ => ⟨a, h2 _ _ b⟩

set_option maxRecDepth 100000 in
theorem ahead_end (h : Env w wx obs) (hi : obs[i]? = some (aO _ bA os)) {k : Nat} {o : OneM} (ho : os[k]? = some o) :
    Calls Try.prog 19 #[.pointer (some ⟨bA, 0, none⟩), spotV k (-1)] wx fun e w' => e = .returned (.int .i64 (lastK o.kids)) ∧ Below wx.heap.size wx w' := by
  have HE := hide h
  have HN0 := hide (fun W (hW : Env w W obs) => anode_no hW hi (k := -1) (by simp [hasO]))
  have HN := hide (fun W (hW : Env w W obs) => anode_in hW hi ho)
  unfold nodeZ at HN0
  clear h hi ho
  unfold spotV
  go_enter Try.func19, Try.ntmps19
  go_wp2_with (first
    | (go_at_call 9; have _x := unhide HS4; refine ((unhide HN) _ ((unhide HE).more ((unhide HS4).alloc _).bel)).mono ?_; rintro e w5 ⟨n, ao, m, c, rfl, hn, hb5⟩; have HS5 := hide (((unhide HS4).alloc _).more hb5); obtain ⟨nk, nsp, nm, av, da, sy, pa, fi, la, pr, ne, inn, att⟩ := n; have ela : la = lastK o.kids := hn.last; subst ela; clear hn hb5; simp only [nodeV, NodeM.cells])
    | (go_at_call 9; refine ((unhide HN0) _ ((unhide HE).more (below_new _ _))).mono ?_; rintro e w4 ⟨rfl, hb4⟩; have HS4 := hide ((Sp.new wx k (-1)).more hb4); clear hb4; obtain ⟨l0, l1, m0, m1⟩ := (unhide HS4).cells; obtain ⟨z0, z1, z2, z3⟩ := ((unhide HS4).alloc (.cells #[.int .i64 0, .int .i64 0, .string ⟨#[]⟩, .slice none 0 0, .string ⟨#[]⟩, .string ⟨#[]⟩, .int .i64 0, .int .i64 0, .int .i64 0, .int .i64 0, .int .i64 0, .int .i64 0] 37)).cells))
  go_ret
  exact ⟨rfl, ((unhide HS5).alloc _).bel⟩

set_option maxRecDepth 100000 in
theorem mayText_ok (h : Env w wx obs) (hi : obs[i]? = some (aO _ bA os)) {k : Nat} {o : OneM} (ho : os[k]? = some o) (hk : o.kind = 1) (hf : os.length ≤ 1000) (s : ByteArray) (hs : s.size ≤ 1048576) :
    Calls Try.prog 30 #[.pointer (some ⟨bA, 0, none⟩), spotV k (-1), .string s] wx fun e w' => e = .returned (.int .i64 0) ∧ Below wx.heap.size wx w' := by
  have HE := hide h
  have HN := hide (fun W (hW : Env w W obs) => anode_in hW hi ho)
  have HL := hide (fun W (hW : Env w W obs) => alen_any hW hi)
  have hnz : (os.length : Int) ≤ 1000 := by omega
  have hd1 : decide ((1048576 : Int) < (s.size : Int)) = false := decide_eq_false (by omega)
  have hd3 : ¬ ((1048576 : Int) < (s.size : Int)) := by omega
  have hd2 : decide ((32768 : Int) ≤ (os.length : Int)) = false := decide_eq_false (by omega)
  have hd4 : ¬ ((32768 : Int) ≤ (os.length : Int)) := by omega
  generalize (os.length : Int) = nn at *
  clear h hi ho hf hs hnz
  unfold spotV
  go_enter Try.func30, Try.ntmps30
  go_wp2_with (first
    | (go_at_call 9; refine ((unhide HN) _ ((unhide HE).more (below_new _ _))).mono ?_; rintro e w5 ⟨n, ao, m, c, rfl, hn, hb5⟩; have HS5 := hide ((Sp.new wx k (-1)).more hb5); obtain ⟨nk, nsp, nm, av, da, sy, pa, fi, la, pr, ne, inn, att⟩ := n; have ek : nk = 1 := hn.same.kind.trans hk; subst ek; clear hn hb5; simp only [nodeV, NodeM.cells])
    | (go_at_call 8; refine ((unhide HL) _ ((unhide HE).more ((unhide HS5).alloc _).bel)).mono ?_; rintro e w6 ⟨rfl, rfl⟩))
  go_ret
  exact ⟨rfl, ((unhide HS5).alloc _).bel⟩
end
end Go.Proofs.Ytgmlngmfocdmhaa
