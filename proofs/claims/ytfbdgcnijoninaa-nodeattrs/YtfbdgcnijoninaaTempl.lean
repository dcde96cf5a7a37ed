/-
  Proved: NodeTemplates returns true for every namespace, name and list of attributes: a template of HTML has its contents right behind it, other elements have none.
  Conditions: none beyond the given row's own.
-/
import Derived.Test.YtfbdgcnijoninaaOpen
import Derived.Test.YtfbdgcnijoninaaElem3
import Derived.Test.YtfbdgcnijoninaaNode
import Derived.Test.YtfbdgcnijoninaaLink
namespace Go.Proofs.Ytfbdgcnijoninaa
open Go.RowKit

/-- Of an arena whose blocks are new all that was there lies as it lay. -/
theorem Upd.below {F : Nat → Prop} {w0 w w' : World} {base bA : Nat} {ns : List NodeM} (hu : Upd F w w' base bA ns) (hb : Below w0.heap.size w0 w) (hF : ∀ k, F k → w0.heap.size ≤ k) :
    Below w0.heap.size w0 w' ∧ ∃ F', ArS w' base bA ns F' ∧ ∀ k, F' k → w0.heap.size ≤ k := by
  obtain ⟨F', h1, h2, h3⟩ := hu
  exact ⟨hb.trans (h2.below hb.size hF), F', h1, fun k hk => (h3 k hk).elim (hF k) (fun h => Nat.le_trans hb.size h)⟩

theorem ArS.len {w : World} {base bA : Nat} {ns : List NodeM} {F : Nat → Prop} (h : ArS w base bA ns F) : Calls Try.prog 18 #[.pointer (some ⟨bA, 0, none⟩)] w fun e w' => e = .returned (.int .i64 ns.length) ∧ w = w' := by
  obtain ⟨bS, g, cap, h, _⟩ := h
  exact len_any h

set_option maxHeartbeats 1000000 in
theorem templ_err {w : World} (space : Int) (name : ByteArray) (a : Option Addr) (cap : Nat) (l : List AttrM) (hl : AttrsIn w a l) (hn : l.length ≤ maxLen) (hs : space < 0 ∨ 2 < space ∨ longE name l = true) :
    Calls Try.prog 7 #[.int .i64 space, .string name, .slice a l.length cap] w fun e w' => e = .returned (.bool true) ∧ Below w.heap.size w w' := by
  have HN := hide (new_any w w.heap.size (Nat.le_refl _))
  have HL := hide hl
  have hcall : ∀ w1 F, ArS w1 w.heap.size (w.heap.size + 3) [blankM 0] F → AttrsIn w1 a l → Calls Try.prog 23 #[.pointer (some ⟨w.heap.size + 3, 0, none⟩), .int .i64 space, .string name, .slice a l.length cap] w1 fun e w' =>
      ∃ c : Int, (c != 0) = true ∧ e = .returned (.tuple #[.int .i64 0, .int .i64 c]) ∧ Below w1.heap.size w1 w' := by
    intro w1 F h1 hl1
    by_cases h0 : space < 0 ∨ 2 < space
    · exact (element_space h1 space name _ h0).mono fun e w' ⟨he, hw⟩ => ⟨1, rfl, he, hw ▸ Below.refl _ _⟩
    · exact (element_long h1 space name a cap l hl1 hn (by omega) ((hs.resolve_left (fun h => h0 (.inl h))).resolve_left (fun h => h0 (.inr h)))).mono fun e w' ⟨he, hw⟩ => ⟨2, rfl, he, hw⟩
  have HC := hide hcall
  clear hcall hl hs
  go_enter Try.func7, Try.ntmps7
  go_wp2_with fail
  refine (unhide HN).mono ?_
  rintro e w1 ⟨F, rfl, h1, hb1, hF⟩
  have HC1 := hide ((unhide HC) w1 F h1 ((unhide HL).below hb1))
  have H1 := hide h1
  have HB1 := hide hb1
  clear h1 hb1
  go_wp2_with fail
  refine (unhide HC1).mono ?_
  rintro e w2 ⟨c, hc, rfl, hb2⟩
  have HLen := hide ((unhide H1).below hb2).len
  have HB2 := hide hb2
  clear hb2
  go_wp2_with (go_at_call 18; refine (unhide HLen).mono ?_; rintro e w' ⟨rfl, rfl⟩)
  go_ret
  exact ⟨rfl, (unhide HB1).trans ((unhide HB2).mono (unhide HB1).size)⟩

set_option maxHeartbeats 2000000 in
theorem templ_plain {w : World} (space : Int) (name : ByteArray) (a : Option Addr) (cap : Nat) (l : List AttrM) (hl : AttrsIn w a l) (hs : space = 1 ∨ space = 2 ∨ (space = 0 ∧ isT name = false)) (hlong : longE name l = false) :
    Calls Try.prog 7 #[.int .i64 space, .string name, .slice a l.length cap] w fun e w' => e = .returned (.bool true) ∧ Below w.heap.size w w' := by
  have HN := hide (new_any w w.heap.size (Nat.le_refl _))
  have HL := hide hl
  have HC := hide (fun (w1 : World) F (h1 : ArS w1 w.heap.size (w.heap.size + 3) [blankM 0] F) (hl1 : AttrsIn w1 a l) => element_plain h1 space name a cap l hl1 hs hlong (by simp))
  clear hl hlong
  unfold isT at hs
  rcases hs with rfl | rfl | ⟨rfl, hT⟩
  all_goals
    go_enter Try.func7, Try.ntmps7
    go_wp2_with fail
    refine (unhide HN).mono ?_
    rintro e w1 ⟨F, rfl, h1, hb1, hF⟩
    have HC1 := hide ((unhide HC) w1 F h1 ((unhide HL).below hb1))
    have HB1 := hide hb1
    clear h1 hb1
    go_wp2_with fail
    refine (unhide HC1).mono ?_
    rintro e w2 ⟨rfl, av, hu⟩
    obtain ⟨hb2, F2, h2, hF2⟩ := hu.below (unhide HB1) hF
    have HN2 := hide (node_in h2 1 _ rfl)
    have HB2 := hide hb2
    have H2 := hide h2
    clear hu hb2 h2 hF2 hF
    go_wp2_with fail
    refine (unhide HN2).mono ?_
    rintro e w3 ⟨ao, cp3, rfl, _, hb3, _⟩
    have HB3 := hide hb3
    have HLen := hide (fun o => (((unhide H2).below hb3).below ((Below.refl _ _).alloc (Nat.le_refl _) o)).len)
    simp only [nodeV, NodeM.cells, elemN, blankM]
    clear hb3
    go_wp2_with (go_at_call 18; refine (unhide HLen _).mono ?_; rintro e w' ⟨rfl, rfl⟩)
    go_ret
    exact ⟨rfl, ((unhide HB2).trans ((unhide HB3).mono (unhide HB2).size)).alloc (by have h1 := (unhide HB2).size; have h2 := (unhide HB3).size; omega) _⟩

/-- The three nodes of a template's arena. -/
def tns (name : ByteArray) (l : List AttrM) (av : Value) : List NodeM := [blankM 0, { elemN 0 name l av with inner := 2 }, blankM 5]

theorem tns_host (name : ByteArray) (l : List AttrM) (av : Value) : hostM (tns name l av) 2 = 1 := by
  simp [hostM, tns]
theorem tns_path (name : ByteArray) (l : List AttrM) (av : Value) : PathOf (upF (tns name l av)) 2 [2, 1] := by
  refine ⟨rfl, 1, ?_, rfl, -1, ?_, rfl⟩
  · simp [upF, tns, overM, blankM, hostM]
  · simp [upF, tns, overM, elemN, blankM]

set_option maxHeartbeats 4000000 in
theorem templ_tmpl {w : World} (name : ByteArray) (a : Option Addr) (cap : Nat) (l : List AttrM) (hl : AttrsIn w a l) (hT : isT name = true) (hlong : longE name l = false) :
    Calls Try.prog 7 #[.int .i64 0, .string name, .slice a l.length cap] w fun e w' => e = .returned (.bool true) ∧ Below w.heap.size w w' := by
  have HN := hide (new_any w w.heap.size (Nat.le_refl _))
  have HL := hide hl
  have HC := hide (fun (w1 : World) F (h1 : ArS w1 w.heap.size (w.heap.size + 3) [blankM 0] F) (hl1 : AttrsIn w1 a l) => element_tmpl h1 name a cap l hl1 hT hlong (by simp))
  clear hl hlong
  unfold isT at hT
  go_enter Try.func7, Try.ntmps7
  go_wp2_with fail
  refine (unhide HN).mono ?_
  rintro e w1 ⟨F, rfl, h1, hb1, hF⟩
  have HC1 := hide ((unhide HC) w1 F h1 ((unhide HL).below hb1))
  have HB1 := hide hb1
  clear h1 hb1
  go_wp2_with fail
  refine (unhide HC1).mono ?_
  rintro e w2 ⟨rfl, av, hu⟩
  obtain ⟨hb2, F2, h2, hF2⟩ := hu.below (unhide HB1) hF
  have h2' : ArS w2 w.heap.size (w.heap.size + 3) (tns name l av) F2 := h2
  have HN2 := hide (node_in h2' 1 _ rfl)
  have HB2 := hide hb2
  have H2 := hide h2'
  clear hu hb2 h2 h2' hF2 hF
  go_wp2_with fail
  refine (unhide HN2).mono ?_
  rintro e w3 ⟨ao, cp3, rfl, _, hb3, _⟩
  have H3 := hide (fun o => ((unhide H2).below hb3).below ((Below.refl _ _).alloc (Nat.le_refl _) o))
  have HB3 := hide ((unhide HB2).trans (hb3.mono (unhide HB2).size))
  simp only [nodeV, NodeM.cells, elemN, blankM]
  clear hb3
  go_wp2_with fail
  refine (node_in (unhide H3 _) 2 (blankM 5) rfl).mono ?_
  rintro e w4 ⟨ao4, cp4, rfl, _, hb4, _⟩
  have H4 := hide (fun o => ((unhide H3 _).below hb4).below ((Below.refl _ _).alloc (Nat.le_refl _) o))
  have HB4 := hide (((unhide HB3).alloc (unhide HB3).size _).trans (hb4.mono (by have := (unhide HB3).size; simp; omega)))
  obtain ⟨bc, bf⟩ := bcell hb4
  simp at bc bf
  have sz4 : w3.heap.size < w4.heap.size := by have := hb4.size; simp at this; omega
  simp only [nodeV, NodeM.cells, blankM]
  clear hb4
  have hfree : ∀ W, ArS W w.heap.size (w.heap.size + 3) (tns name l av) F2 → (Calls Try.prog 18 #[.pointer (some ⟨w.heap.size + 3, 0, none⟩)] W fun e w' => e = .returned (.int .i64 3) ∧ W = w') ∧
      (Calls Try.prog 24 #[.pointer (some ⟨w.heap.size + 3, 0, none⟩), .int .i64 2] W fun e w' => e = .returned (.int .i64 1) ∧ W = w') ∧
      (Calls Try.prog 15 #[.pointer (some ⟨w.heap.size + 3, 0, none⟩), .int .i64 2, .int .i64 1] W fun e w' => e = .returned (.bool true) ∧ Below W.heap.size W w') ∧
      (Calls Try.prog 25 #[.pointer (some ⟨w.heap.size + 3, 0, none⟩), .int .i64 2, .int .i64 1, .int .i64 (-1)] W fun e w' => e = .returned (.int .i64 11) ∧ Below W.heap.size W w') := by
    intro W hW
    obtain ⟨bS, g, cp, hA, _⟩ := hW
    have e1 := host_any hA 2
    rw [tns_host] at e1
    have e2 := above_yes hA 2 (by simp [tns]) 1 [2, 1] (tns_path name l av)
    have e3 := mayLink_in hA 2 (blankM 5) rfl 1 { elemN 0 name l av with inner := 2 } rfl (-1) (.inl rfl) [2, 1] (tns_path name l av)
    have m3 : mayM (tns name l av) 2 (blankM 5) 1 { elemN 0 name l av with inner := 2 } (-1) [2, 1] = 11 := by
      simp [mayM, parentM, blankM, elemN, coversM, inPath]
    rw [m3] at e3
    exact ⟨len_any hA, e1, e2, link_err 2 1 (-1) 11 (by omega) e3 hA⟩
  have HFr := hide hfree
  clear hfree
  go_wp2_with fail
  refine (unhide HFr _ (unhide H4 _)).1.mono ?_
  rintro e w' ⟨rfl, rfl⟩
  go_wp2_with fail
  refine (unhide HFr _ (unhide H4 _)).2.1.mono ?_
  rintro e w' ⟨rfl, rfl⟩
  go_wp2_with fail
  refine (unhide HFr _ (unhide H4 _)).2.2.1.mono ?_
  rintro e w5 ⟨rfl, hb5⟩
  have H5 := hide ((unhide H4 _).below hb5)
  have HB5 := hide (((unhide HB4).alloc (unhide HB4).size _).trans (hb5.mono (by have := (unhide HB4).size; simp; omega)))
  clear hb5
  go_wp2_with fail
  refine (unhide HFr _ (unhide H5)).2.2.2.mono ?_
  rintro e w6 ⟨rfl, hb6⟩
  have HB6 := hide ((unhide HB5).trans (hb6.mono (unhide HB5).size))
  clear hb6
  go_wp2
  go_ret
  exact ⟨rfl, unhide HB6⟩
end Go.Proofs.Ytfbdgcnijoninaa
