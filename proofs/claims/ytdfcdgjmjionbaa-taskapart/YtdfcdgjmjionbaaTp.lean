/-
  TaskApart's walk.
-/
import Derived.Test.YtdfcdgjmjionbaaTn
import Derived.Laws.BytesArg
namespace Go.Proofs.Ytdfcdgjmjionbaa
open Go.RowKit Go.Lib

/-- A list of bytes, whatever its length, appended to an empty list that is not nil. -/
theorem empty_append {w : World} {ops : Array Oper} {rest : List Oper} {o : Oper} {a : Act} {Q : Exit → Act → World → Prop} (hgd : o.guard = none) (s x : Operand)
    (ho : o.op = .call { callee := .builtin .append, args := #[s, x], argTypes := #[31, 31] })
    (g : Nat) (hs : a.eval s = .slice (some ⟨g, 0, none⟩) 0 0) (hg : w.heap[g]? = some (.cells #[] 5 (0, 0)))
    {F : Nat → Prop} (src : Option Addr) (l : List Int) (c : Nat) (hx : a.eval x = .slice src l.length c) (hin : RowIn w F src (bytesV l)) (hl : l.length ≤ 140737488351232)
    (h : ∀ ad cap w', Below g w w' → RowIn w' (fun k => g ≤ k) ad (bytesV l) → wpList Try.prog ops Q rest (a.put o.dst (.slice ad l.length cap)) w') : wpList Try.prog ops Q (o :: rest) a w := by
  obtain ⟨i, hi, hz, hsize, hby⟩ := info_parts info5
  have hgl := lt_of_block hg
  have hown : w.ownsRow g 5 1 (.slice (some ⟨g, 0, none⟩) 0 0) 0 [] := ⟨by simp, .inr ⟨g, 0, #[], rfl, Nat.le_refl _, hg, Nat.le_refl _, by unfold maxLen; omega, by simp, by simp⟩⟩
  by_cases hm : 0 < l.length
  · obtain ⟨b, off, rfl⟩ := hin.src (by rw [bytesV_len]; omega)
    refine wpList_append_lies w hgd s x 31 ho g 5 i _ 1 1 Try.underlying31 hi hz hsize hby rfl (by omega) _ 0 [] hs hown ⟨b, off, none⟩ l.length c (bytesV l) hx (bytesV_len l) (hin.news b off rfl) (bytes_one l) hm (by unfold maxLen; omega) (by omega) (by omega) _ rfl ?_
    intro g' cap w' h2 h3 h4 h5
    simp only [Nat.zero_add, List.nil_append] at h2 ⊢
    have hg' : g ≤ g' := by
      rcases h4 with h4 | h4
      · simp [Value.ownBlock] at h4; omega
      · omega
    refine h _ cap w' ⟨h3.os, h3.tape, h3.output, h3.size, fun k hk => h3.block k (by omega) (by simp [Value.ownBlock]; omega)⟩ fun j u hj => ⟨g', 0, rfl, hg', ?_⟩
    have hjl := (List.getElem?_eq_some_iff.1 hj).1
    rw [bytesV_len] at hjl
    rw [Nat.zero_add, h2.cellAt j (by omega)]
    exact hj
  · obtain rfl : l = [] := List.eq_nil_of_length_eq_zero (by omega)
    have hS : Src Try.prog i.size 31 (.slice src 0 c) 0 [] w := by
      cases src with
      | none => exact Src.ofNil w Try.underlying31 c
      | some ad => exact Src.ofSlice w Try.underlying31 ad 0 c [] (by simp) (fun j u hu => by simp at hu) (by simp)
    have hr := run_append_nothing (P := Try.prog) w 31 31 o.type 5 i Try.underlying31 hi (some ⟨g, 0, none⟩) 0 0 (Nat.le_refl _) (.slice src 0 c) hS
    simp only [List.length_nil] at hx h
    refine wpList_plain hgd fun K hK => ?_
    unfold Oper.wp execOp
    simp only [ho, resolve, invoke, builtin, Sem.run_bind, Sem.run_pure, Result.andThen_ok, List.map_toArray, List.map_cons, List.map_nil, hs, hx, hr]
    exact hK _ _ (h _ 0 w (Below.refl _ _) (RowIn.nil _ _ _))

/-- The text of bytes that lie there. -/
theorem RowIn.conv {w : World} {F : Nat → Prop} {a : Option Addr} {l : List Int} (h : RowIn w F a (bytesV l)) (c : Nat) : (convert 31 9 (.slice a l.length c)).run Try.prog w = .ok (.string (strOfNums l)) w := by
  cases l with
  | nil =>
    cases a with
    | none => exact run_convert_bytes_nil w 31 5 Try.underlying31 Try.underlying5 _ c 9 Try.underlying9
    | some a =>
      have hl : (loadCells a 0).run Try.prog w = .ok (([] : List Int).map (Value.int .u8)).toArray w := by
        simpa using run_loadCells_list (P := Try.prog) w a [] (fun j v hj => by simp at hj)
      rw [List.length_nil, run_convert_bytes_string w 31 9 5 _ 0 c Try.underlying31 Try.underlying5 Try.underlying9, run_bytesToString w a 0 c [] hl, foldl_push_bytes]
      rfl
  | cons x l =>
    obtain ⟨b, off, rfl⟩ := h.src (by simp [bytesV])
    refine run_convert_bytes_arg w 31 5 Try.underlying31 Try.underlying5 b off _ c (x :: l) rfl (fun i hi => ?_) 9 Try.underlying9
    obtain ⟨b', off', e, _, hc⟩ := h i (.int .u8 ((x :: l).getD i 0)) (by unfold bytesV; rw [List.getElem?_map, List.getElem?_eq_getElem hi]; simp [List.getD, List.getElem?_eq_getElem hi])
    cases e
    exact hc

def qs0 : List (List Tk) := [[], [], [], []]
theorem apart_post (n : Nat) (h : n < 4) (t : Tk) : postM qs0 n t = (0, qs0.set n [t]) := by
  rcases (by omega : n = 0 ∨ n = 1 ∨ n = 2 ∨ n = 3) with rfl | rfl | rfl | rfl <;> rfl
theorem apart_len (n : Nat) (h : n < 4) (t : Tk) : lenQ (qs0.set n [t]) = 1 := by
  rcases (by omega : n = 0 ∨ n = 1 ∨ n = 2 ∨ n = 3) with rfl | rfl | rfl | rfl <;> rfl
theorem apart_next (n : Nat) (h : n < 4) (t : Tk) : nextM (qs0.set n [t]) 7 = some (t, n, qs0) := by
  have e : readyQ (qs0.set n [t]) = [n] := by rcases (by omega : n = 0 ∨ n = 1 ∨ n = 2 ∨ n = 3) with rfl | rfl | rfl | rfl <;> rfl
  have e2 : (restM 7 1).toNat = 0 := by decide +kernel
  unfold nextM
  rw [e]
  simp only [List.length_cons, List.length_nil, Nat.zero_add, e2, List.getElem?_cons_zero]
  rcases (by omega : n = 0 ∨ n = 1 ∨ n = 2 ∨ n = 3) with rfl | rfl | rfl | rfl <;> rfl
theorem apart_none : nextM qs0 7 = none := rfl
theorem apart_walk (l : List Int) (a : Option Addr) (cap : Nat) (s : Int) (hs : 0 ≤ s ∧ s ≤ 255) (w : World) (hin : RowIn w (fun _ => True) a (bytesV l) ∧ ∀ x ∈ l, 0 ≤ x ∧ x ≤ 255) (hlen : l.length ≤ 140737488351232) :
    Calls Try.prog 8 #[.slice a l.length cap, .int .u8 s] w fun e w' => e = .returned (.bool true) ∧ Below w.heap.size w w' := by
  have HIN := hide hin
  have HLEN := hide hlen
  obtain ⟨n, hn4, hn⟩ : ∃ n : Nat, n < 4 ∧ s.tmod 4 = (n : Int) := ⟨(s.tmod 4).toNat, by have := Int.tmod_nonneg 4 hs.1; have := Int.tmod_lt_of_pos s (show (0 : Int) < 4 by omega); omega, by have := Int.tmod_nonneg 4 hs.1; omega⟩
  have hw : wrap64 (n : Int) = (n : Int) := by unfold wrap64; omega
  have HN := hide hn4
  clear hin hlen hs hn4
  go_enter Try.func8, Try.ntmps8
  go_wp2_with (go_at_call 9; fail)
  refine (new_any _ _ (Nat.le_refl _)).mono ?_
  rintro e w1 ⟨bq, F, rfl, hq, hb, hF⟩
  have HQ := hide hq
  have HB1 := hide hb
  have HF := hide hF
  clear hq hb hF
  go_wp2_with (go_at_call 9; fail)
  refine (new_any _ _ (Nat.le_refl _)).mono ?_
  rintro e w2 ⟨bp, G, rfl, hq, hb, hF⟩
  have HP := hide hq
  have HB2 := hide hb
  have HG := hide hF
  clear hq hb hF
  go_wp2_with (first
    | (go_at_call 11; fail)
    | (at_builtin; go_must (refine empty_append (by rfl) _ _ (by rfl) w2.heap.size (by rfl) (heap_alloc_new w2 _) a l cap (by rfl) (((unhide HIN).1.below ((unhide HB1).trans ((unhide HB2).mono (unhide HB1).size))).below (below_new _ _)) (unhide HLEN) ?_); intro ad cp w3 hb hr; have HB3 := hide hb; have HR := hide hr; clear hb hr))
  have HX : Hid (TkIn w3 (fun k => w2.heap.size ≤ k) ⟨0, l, []⟩ ⟨0, ad, l.length, cp, none, 0, 0⟩) := hide ⟨rfl, rfl, rfl, unhide HR, RowIn.nil _ _ _, unhide HLEN, by simp⟩
  have HB3' : Hid (Below w2.heap.size w2 w3) := hide ((below_new w2 _).trans (unhide HB3))
  have HQ3 : Hid (QueS w3 w.heap.size bq qs0 F) := hide ((unhide HQ).below ((unhide HB2).trans ((unhide HB3').mono (unhide HB2).size)))
  have HP3 : Hid (QueS w3 w1.heap.size bp qs0 G) := hide ((unhide HP).below (unhide HB3'))
  have HFG : Hid (∀ k, F k → ¬ G k) := hide fun k h1 h2 => by
    have := (unhide HG) k h2
    have := ((unhide HQ).lt k h1).2
    omega
  refine (post_any (unhide HQ3) (Nat.le_trans (unhide HB1).size (Nat.le_trans (unhide HB2).size (unhide HB3').size)) n ⟨0, l, []⟩ ⟨0, ad, l.length, cp, none, 0, 0⟩ (unhide HX)).mono ?_
  rw [apart_post n (unhide HN)]
  rintro e w4 ⟨rfl, F', hq, hm, hF⟩
  dsimp only at hq ⊢
  have HQ4 := hide hq
  have HP4 : Hid (QueS w4 w1.heap.size bp qs0 G) := hide ((unhide HP3).mod hm (fun k h1 h2 => (unhide HFG) k h2 h1))
  have HFG4 : Hid (∀ k, F' k → ¬ G k) := hide fun k h1 h2 => by
    rcases hF k h1 with h | h
    · exact (unhide HFG) k h h2
    · have := ((unhide HP3).lt k h2).2
      omega
  have HM4 := hide hm
  clear hq hm hF
  go_wp2_with (go_at_call 17; fail)
  refine (len_any (unhide HP4)).mono ?_
  rintro e w5 ⟨rfl, hb⟩
  have HB5 := hide hb
  clear hb
  have hl0 : ((lenQ qs0 : Nat) : Int) = 0 := rfl
  go_wp2_with (go_at_call 17; fail)
  refine (len_any ((unhide HQ4).below (unhide HB5))).mono ?_
  rw [apart_len n (unhide HN)]
  rintro e w6 ⟨rfl, hb⟩
  have HB6 := hide ((unhide HB5).trans (hb.mono (unhide HB5).size))
  clear hb
  go_wp2_with (go_at_call 14; fail)
  have HQ6 : Hid (QueS w6 w.heap.size bq (qs0.set n [⟨0, l, []⟩]) F') := hide ((unhide HQ4).below (unhide HB6))
  have HP6 : Hid (QueS w6 w1.heap.size bp qs0 G) := hide ((unhide HP4).below (unhide HB6))
  refine (next_any (unhide HQ6) 7).mono ?_
  unfold NextA
  rw [apart_next n (unhide HN)]
  rintro e w7 ⟨⟨x0, x1, x2, x3, x4, x5, x6⟩, rfl, hq, hx, hm⟩
  obtain ⟨h0, h2, h5, hr, _, _, _⟩ := hx
  dsimp only at h0 h2 h5 hr
  subst h0 h2 h5
  have HQ7 := hide hq
  have HR7 := hide hr
  have HP7 : Hid (QueS w7 w1.heap.size bp qs0 G) := hide ((unhide HP6).mod hm (fun k h1 h2 => (unhide HFG4) k h2 h1))
  have HM7 := hide hm
  clear hq hr hm
  simp only [TkV.val, TkV.cells, List.length_nil]
  have HX7 := hide (heap_alloc_new w7 (.cells #[.int .i64 0, .slice x1 l.length x3, .slice x4 0 x6] 34))
  have HB7 := hide (below_new w7 (.cells #[.int .i64 0, .slice x1 l.length x3, .slice x4 0 x6] 34))
  go_wp2_with (go_at_call 14; fail)
  refine (next_any ((unhide HP7).below (unhide HB7)) 7).mono ?_
  unfold NextA
  rw [apart_none]
  rintro e w8 ⟨rfl, hq, hm⟩
  have hx8 := (hm.block w7.heap.size (by simp) (fun h => by have := ((unhide HP7).lt _ h).2; omega)).trans (unhide HX7)
  have k0 := (cell_of_row _ _ 0 _ _ _ hx8).trans (by rfl : _ = some (.int .i64 0))
  have k1 := (cell_of_row _ _ 1 _ _ _ hx8).trans (by rfl : _ = some (.slice x1 l.length x3))
  have k2 := (cell_of_row _ _ 2 _ _ _ hx8).trans (by rfl : _ = some (.slice x4 0 x6))
  have HM8 := hide hm
  have hl8 : w7.heap.size < w8.heap.size := lt_of_block hx8
  clear hq hm hx8
  simp only [tkZ, TkV.val, TkV.cells]
  have HBB : Hid (Below w.heap.size w w8) := hide (by
    have h4 : Mod (fun k => w.heap.size ≤ k) w w3 := Mod.of_below ((unhide HB1).trans (((unhide HB2).trans ((unhide HB3').mono (unhide HB2).size)).mono (unhide HB1).size))
    have h5 := h4.then (unhide HM4) (fun k hk => .inl ((unhide HQ).lt k hk).1)
    have h6 := h5.trans (Mod.of_below (unhide HB6))
    have h7 := h6.then (unhide HM7) (fun k hk => .inl ((unhide HQ4).lt k hk).1)
    have h8 := h7.trans (Mod.of_below (unhide HB7))
    have h9 := h8.then (unhide HM8) (fun k hk => .inl (by have := (unhide HG) k hk; have := (unhide HB1).size; omega))
    exact h9.below (Nat.le_refl _) (fun k hk => hk))
  have hc1 : ∀ W, Below w8.heap.size w8 W → (convert 31 9 (.slice x1 l.length x3)).run Try.prog W = .ok (.string (strOfNums l)) W := fun W hW =>
    RowIn.conv ((((unhide HR7).below (unhide HB7)).mod (unhide HM8) (fun k h1 h2 => (unhide HFG4) k h1 h2)).below hW) x3
  have hc2 : ∀ W, Below w8.heap.size w8 W → (convert 31 9 (.slice a l.length cap)).run Try.prog W = .ok (.string (strOfNums l)) W := fun W hW =>
    RowIn.conv (((unhide HIN).1.below (unhide HBB)).below hW) cap
  have hc1' := hc1 _ (below_new w8 (.cells #[.int .i64 0, .slice none 0 0, .slice none 0 0] 34))
  have hc2' := hc2 _ (below_new w8 (.cells #[.int .i64 0, .slice none 0 0, .slice none 0 0] 34))
  clear hc1 hc2
  go_wp2_with (go_at_call 17; fail)
  have HQ8 : Hid (QueS (w8.alloc (.cells #[.int .i64 0, .slice none 0 0, .slice none 0 0] 34)) w.heap.size bq qs0 F') := hide ((((unhide HQ7).below (unhide HB7)).mod (unhide HM8) (unhide HFG4)).below (below_new w8 _))
  refine (len_any (unhide HQ8)).mono ?_
  rintro e w9 ⟨rfl, hb⟩
  have HB9 := hide (((unhide HBB).trans ((below_new w8 (.cells #[.int .i64 0, .slice none 0 0, .slice none 0 0] 34)).mono (unhide HBB).size)))
  have HB10 := hide ((unhide HB9).trans (hb.mono (unhide HB9).size))
  clear hb
  go_wp2
  go_ret
  exact ⟨rfl, unhide HB10⟩
end Go.Proofs.Ytdfcdgjmjionbaa
