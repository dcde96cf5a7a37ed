/-
  Proved: the links of every arena that any script of calls leads to agree: ShowSound returns true for every script, and changes nothing. Conditions: none beyond the given row's own.
-/
import Derived.Test.YtlbkoafeedlfaaaSxA
import Derived.Test.YtlbkoafeedlfaaaOpen
import Derived.Test.YtlbkoafeedlfaaaPlay
import Derived.ProofKit
import Derived.OpenShut
import Derived.ChangeOld
import Derived.Test.YtlbkoafeedlfaaaRfB
import Derived.BigQuiet
namespace Go.Proofs.Ytlbkoafeedlfaaa
open Go.RowKit

theorem PathOf.one {f : Nat → Option Int} : ∀ {l l' : List Nat} {k : Int}, PathOf f k l → PathOf f k l' → l = l'
  | [], [], _, _, _ => rfl
  | [], i :: r, k, h, h' => by
    have h0 : k = -1 := h
    have h1 : k = (i : Int) := h'.1
    omega
  | i :: r, [], k, h, h' => by
    have h0 : k = -1 := h'
    have h1 : k = (i : Int) := h.1
    omega
  | i :: r, i' :: r', k, h, h' => by
    obtain ⟨e, m, hm, hr⟩ := h
    obtain ⟨e', m', hm', hr'⟩ := h'
    obtain rfl : i = i' := by omega
    rw [hm] at hm'
    cases hm'
    rw [PathOf.one hr hr']

theorem PathOf.tail {f : Nat → Option Int} {x : Int} : ∀ {l : List Nat} {k : Int}, PathOf f k l → inPath l x = true → ∃ t, PathOf f x t ∧ t.length ≤ l.length
  | [], _, _, hx => by simp [inPath] at hx
  | i :: r, k, h, hx => by
    by_cases e : (i : Int) = x
    · subst e
      exact ⟨i :: r, ⟨rfl, h.2⟩, Nat.le_refl _⟩
    · obtain ⟨_, m, hm, hr⟩ := h
      have hx' : inPath r x = true := by simpa [inPath, e] using hx
      obtain ⟨t, ht, hl⟩ := PathOf.tail hr hx'
      exact ⟨t, ht, by simp; omega⟩

section
variable {ns : List NodeM} {os : List OneM}

/-- No node is above its parent. -/
theorem Sim.notAbove {i : Nat} {o : OneM} (ho : os[i]? = some o) (hu : o.up ≠ -1) : aboveO os o.up i = false := by
  rw [aboveO_eq]
  rw [Bool.and_eq_false_iff]
  right
  rw [decide_eq_false_iff_not]
  rintro ⟨path, hp, hx⟩
  obtain ⟨t, ht, hl⟩ := PathOf.tail hp hx
  have h2 : PathOf (upO os) (i : Int) (i :: path) := ⟨rfl, o.up, by simp [upO, ho, hu], hp⟩
  have := PathOf.one ht h2
  rw [this] at hl
  simp at hl
  omega

/-- What Node tells of a node's own ends. -/
theorem Sim.ends' (hs : Sim ns os) {i : Nat} {n : NodeM} {o : OneM} (hn : ns[i]? = some n) (ho : os[i]? = some o) : n.first = headI o.kids ∧ n.last = lastI o.kids ∧ n.parent = o.up := by
  have e := hs.tell hn ho
  refine ⟨?_, ?_, ?_⟩
  · rw [e]; rfl
  · rw [e]; rfl
  · rw [e]; rfl

/-- What Node tells of the k-th child. -/
theorem Sim.child (hs : Sim ns os) {i : Nat} {o : OneM} (ho : os[i]? = some o) {k c : Nat} (hk : o.kids[k]? = some c) :
    ∃ m, ns[c]? = some m ∧ m.parent = (i : Int) ∧ m.prev = lastI (o.kids.take k) ∧ m.next = headI (o.kids.drop (k + 1)) := by
  have hlt : k < o.kids.length := (List.getElem?_eq_some_iff.1 hk).1
  have hc : o.kids[k] = c := (List.getElem?_eq_some_iff.1 hk).2
  obtain ⟨oc, hoc, hup⟩ := hs.down i o c ho (List.mem_of_getElem? hk)
  obtain ⟨m, hm, sm⟩ := hs.get hoc
  have hK := hs.kids i o ho
  have e : o.kids = o.kids.take k ++ c :: o.kids.drop (k + 1) := by
    have := List.take_append_drop k o.kids
    rw [List.drop_eq_getElem_cons hlt, hc] at this
    exact this.symm
  have hK' := hK
  rw [e] at hK'
  obtain ⟨h1, h2⟩ := hK'.nbrs hm
  exact ⟨m, hm, by rw [(hs.ends' hm hoc).2.2, hup], h1, h2⟩

theorem lastI_take {l : List Nat} {k c : Nat} (hk : l[k]? = some c) : lastI (l.take (k + 1)) = c := by
  have hlt : k < l.length := (List.getElem?_eq_some_iff.1 hk).1
  have : (l.take (k + 1)).getLast? = some c := by
    rw [List.getLast?_eq_getElem?, List.length_take, Nat.min_eq_left (by omega)]
    simp [hk]
  simp [lastI, this]

end
end Go.Proofs.Ytlbkoafeedlfaaa

namespace Go.Proofs.Ytlbkoafeedlfaaa
open Go.RowKit

/-- A call of a script of the third law. -/
structure Op3 where
  what : Int
  a : Int
  b : Int
  c : Int
  n : Int
  text : ByteArray
  la : Option Addr
  cap : Nat
  l : List AttrM
def Op3.cells (o : Op3) : Array Value := #[.int .i64 o.what, .int .i64 o.a, .int .i64 o.b, .int .i64 o.c, .int .i64 o.n, .string o.text, .slice o.la o.l.length o.cap]
structure Script3 (w : World) (a : Option Addr) (l : List Op3) : Prop where
  cells : ∀ (i : Nat) o, l[i]? = some o → ∃ b off, a = some ⟨b, off, none⟩ ∧ w.cell? ⟨b, off + i * 7, none⟩ = some (.int .i64 o.what) ∧ w.cell? ⟨b, off + i * 7 + 1, none⟩ = some (.int .i64 o.a) ∧ w.cell? ⟨b, off + i * 7 + 2, none⟩ = some (.int .i64 o.b) ∧ w.cell? ⟨b, off + i * 7 + 3, none⟩ = some (.int .i64 o.c) ∧ w.cell? ⟨b, off + i * 7 + 4, none⟩ = some (.int .i64 o.n) ∧ w.cell? ⟨b, off + i * 7 + 5, none⟩ = some (.string o.text) ∧ w.cell? ⟨b, off + i * 7 + 6, none⟩ = some (.slice o.la o.l.length o.cap)
  attrs : ∀ (i : Nat) o, l[i]? = some o → AttrsIn w o.la o.l ∧ o.l.length * 56 ≤ 140737488351232
theorem Script3.below {w w1 : World} {a : Option Addr} {l : List Op3} (h : Script3 w a l) (hb : Below w.heap.size w w1) : Script3 w1 a l := by
  refine ⟨fun i o hi => ?_, fun i o hi => ⟨((h.attrs i o hi).1).below hb, (h.attrs i o hi).2⟩⟩
  obtain ⟨b, off, e, c0, c1, c2, c3, c4, c5, c6⟩ := h.cells i o hi
  have hlt : b < w.heap.size := World.block_lt_of_cell? w _ c0
  exact ⟨b, off, e, (hb.cell (p := ⟨b, off + i * 7, none⟩) hlt).trans c0, (hb.cell (p := ⟨b, off + i * 7 + 1, none⟩) hlt).trans c1, (hb.cell (p := ⟨b, off + i * 7 + 2, none⟩) hlt).trans c2, (hb.cell (p := ⟨b, off + i * 7 + 3, none⟩) hlt).trans c3, (hb.cell (p := ⟨b, off + i * 7 + 4, none⟩) hlt).trans c4, (hb.cell (p := ⟨b, off + i * 7 + 5, none⟩) hlt).trans c5, (hb.cell (p := ⟨b, off + i * 7 + 6, none⟩) hlt).trans c6⟩

/-- The box of a call's argument holds o. -/
structure At3 (o : Op3) (k : Nat) (w : World) : Prop where
  a : w.cell? ⟨k, 1, none⟩ = some (.int .i64 o.a)
  b : w.cell? ⟨k, 2, none⟩ = some (.int .i64 o.b)
  c : w.cell? ⟨k, 3, none⟩ = some (.int .i64 o.c)
  n : w.cell? ⟨k, 4, none⟩ = some (.int .i64 o.n)
  t : w.cell? ⟨k, 5, none⟩ = some (.string o.text)
  l : w.cell? ⟨k, 6, none⟩ = some (.slice o.la o.l.length o.cap)
theorem at3_box (w : World) (o : Op3) (v0 : Value) : At3 o w.heap.size (w.alloc (.cells #[v0, .int .i64 o.a, .int .i64 o.b, .int .i64 o.c, .int .i64 o.n, .string o.text, .slice o.la o.l.length o.cap] 104)) := by
  refine ⟨?_, ?_, ?_, ?_, ?_, ?_⟩
  all_goals simp
theorem At3.of {o : Op3} {k : Nat} {w w1 : World} (h : At3 o k w) (he : ∀ j, w1.cell? ⟨k, j, none⟩ = w.cell? ⟨k, j, none⟩) : At3 o k w1 :=
  ⟨by rw [he]; exact h.a, by rw [he]; exact h.b, by rw [he]; exact h.c, by rw [he]; exact h.n, by rw [he]; exact h.t, by rw [he]; exact h.l⟩

section
variable {w0 w W w1 w2 : World} {bA bR : Nat} {os osR os1 : List OneM} {ns : List NodeM} {F G : Nat → Prop}
theorem Pair.prog3 (h : Pair w0 w bA bR os osR ns F G) (o : Op3) (hB : Below w.heap.size w W) (hlt : w.heap.size < W.heap.size) (hw : At3 o w.heap.size W) (hu : USim F W w1 w0.heap.size bA os1) :
    At3 o w.heap.size w1 ∧ ∃ ns1 F1, Pair w0 w1 bA bR os1 osR ns1 F1 G := by
  obtain ⟨ns1, F1, hp1, hc⟩ := h.prog hB hu
  exact ⟨hw.of fun j => hc _ j (Nat.le_refl _) hlt, ns1, F1, hp1⟩
end

set_option maxHeartbeats 8000000 in
theorem build_any {w : World} (a : Option Addr) (cap : Nat) (l : List Op3) (hs : Script3 w a l) (hn : l.length ≤ maxLen) :
    Calls Try.prog 27 #[.slice a l.length cap] w fun e w' => ∃ bR os, e = .returned (.tuple #[.pointer (some ⟨w.heap.size + 3, 0, none⟩), .pointer (some ⟨bR, 0, none⟩)]) ∧ Both w w' (w.heap.size + 3) bR os := by
  have HN := hide (new_any w w.heap.size (Nat.le_refl _))
  have HS := hide hs
  have hlz : (l.length : Int) ≤ 9223372036854775807 := by unfold maxLen at hn; omega
  clear hs hn
  go_enter Try.func27, Try.ntmps27
  set_option maxRecDepth 10000 in
  go_wp2_with (first
    | (go_at_call 13; refine (unhide HN).mono ?_; rintro e w1 ⟨F, rfl, h1, hb1, hF⟩; have HNR := hide (refNew_any w1 w.heap.size hb1.size); have H1 := hide h1; have HB1 := hide hb1; have HF := hide hF; clear h1 hb1 hF)
    | (go_at_call 14; refine (unhide HNR).mono ?_; rintro e w2 ⟨bR, g, cp, rfl, h2, hb2, hR, hg⟩; have HBo := hide (both_new (unhide H1) (unhide HB1) (unhide HF) h2 hb2 hR hg); clear h2 hb2 hR hg))
  go_loopg [6, 7] 300 (fun k s6 _ wx => ∃ (j : Nat) (os : List OneM), s6 = .int .i64 j ∧ j + k = 300 ∧ Both w wx (w.heap.size + 3) bR os)
  case atStart => exact ⟨0, _, rfl, by omega, unhide HBo⟩
  case round =>
    obtain ⟨j, os, rfl, hjk, hB⟩ := hrel
    have HBW := hide (show Below w.heap.size w wr by obtain ⟨ns, F0, G0, hp⟩ := hB; exact hp.below)
    by_cases hj : j < l.length
    · by_cases h300 : j < 300
      · have hjz : (j : Int) < (l.length : Int) := by omega
        have h3z : (j : Int) < 300 := by omega
        have hx : l[j]? = some l[j] := List.getElem?_eq_getElem hj
        generalize l[j] = o at hx
        obtain ⟨ha, hr⟩ := (unhide HS).attrs j o hx
        obtain ⟨b, off, rfl, d0, d1, d2, d3, d4, d5, d6⟩ := ((unhide HS).below (unhide HBW)).cells j o hx
        obtain ⟨ns, F, G, hp⟩ := hB
        have hW : ∀ ob, Below wr.heap.size wr (wr.alloc ob) := fun ob => ((Below.refl _ wr).alloc (Nat.le_refl _) ob)
        have HP := hide hp
        have HSIM := hide hp.sim
        have HW := hide hW
        have HAT := hide ha
        have HNL : Hid (o.l.length ≤ maxLen) := hide (by unfold maxLen; omega)
        have HFIN : Hid (∀ wz os', Both w wz (w.heap.size + 3) bR os' → ∃ (j_1 : Nat) (os : List OneM), Value.int .i64 ((j : Int) + 1) = .int .i64 j_1 ∧ j_1 + (gk - 1) = 300 ∧ Both w wz (w.heap.size + 3) bR os) := hide (fun wz os' h => ⟨j + 1, os', by simp, by omega, h⟩)
        clear ha hr hx hW
        by_cases h0 : o.what = 0
        · rw [h0] at d0
          clear h0
          have HB := hide (at3_box wr o (.int .i64 0))
          have H1 := hide (fun ob => element_sim (hp.more ((unhide HW) ob)).ar hp.sim o.n o.text o.la o.cap o.l (((unhide HAT).below hp.below).below ((unhide HW) ob)) (unhide HNL))
          clear hp
          set_option maxRecDepth 10000 in
          go_wp2_with (first
            | (go_at_call 34; refine ((unhide H1) _).mono ?_; rintro e w1 ⟨rfl, hu⟩; obtain ⟨Y1, ns1, F1, hp1⟩ := (unhide HP).prog3 o ((unhide HW) _) (by simp) (unhide HB) hu; have t1 := Y1.n; have t2 := Y1.t; have t3 := Y1.l; have H2 := hide (refElement_sim hp1.rf o.n o.text o.la o.cap o.l ((unhide HAT).below hp1.below) (unhide HNL)); have HP1 := hide hp1; clear hu hp1 Y1)
            | (go_at_call 65; refine (unhide H2).mono ?_; rintro e w2 ⟨rfl, hu2⟩; have HB2 := hide ((unhide HP1).ref hu2).1; clear hu2))
          go_roundg (gk - 1)
          case measure => omega
          case rel => exact (unhide HFIN) _ _ (unhide HB2)
        by_cases h1 : o.what = 1
        · rw [h1] at d0
          clear h1
          have HB := hide (at3_box wr o (.int .i64 1))
          have H1 := hide (fun ob => text_sim (hp.more ((unhide HW) ob)).ar hp.sim o.text)
          clear hp
          set_option maxRecDepth 10000 in
          go_wp2_with (first
            | (go_at_call 64; refine ((unhide H1) _).mono ?_; rintro e w1 ⟨rfl, hu⟩; obtain ⟨Y1, ns1, F1, hp1⟩ := (unhide HP).prog3 o ((unhide HW) _) (by simp) (unhide HB) hu; have t2 := Y1.t; have H2 := hide (refText_sim hp1.rf o.text); have HP1 := hide hp1; clear hu hp1 Y1)
            | (go_at_call 66; refine (unhide H2).mono ?_; rintro e w2 ⟨rfl, hu2⟩; have HB2 := hide ((unhide HP1).ref hu2).1; clear hu2))
          go_roundg (gk - 1)
          case measure => omega
          case rel => exact (unhide HFIN) _ _ (unhide HB2)
        by_cases h2 : o.what = 2
        · rw [h2] at d0
          clear h2
          have HB := hide (at3_box wr o (.int .i64 2))
          have H1 := hide (fun ob => comment_sim (hp.more ((unhide HW) ob)).ar hp.sim o.text)
          clear hp
          set_option maxRecDepth 10000 in
          go_wp2_with (first
            | (go_at_call 67; refine ((unhide H1) _).mono ?_; rintro e w1 ⟨rfl, hu⟩; obtain ⟨Y1, ns1, F1, hp1⟩ := (unhide HP).prog3 o ((unhide HW) _) (by simp) (unhide HB) hu; have t2 := Y1.t; have H2 := hide (refComment_sim hp1.rf o.text); have HP1 := hide hp1; clear hu hp1 Y1)
            | (go_at_call 68; refine (unhide H2).mono ?_; rintro e w2 ⟨rfl, hu2⟩; have HB2 := hide ((unhide HP1).ref hu2).1; clear hu2))
          go_roundg (gk - 1)
          case measure => omega
          case rel => exact (unhide HFIN) _ _ (unhide HB2)
        by_cases h3 : o.what = 3
        · rw [h3] at d0
          clear h3
          have HB := hide (at3_box wr o (.int .i64 3))
          have H1 := hide (fun ob => doctype_sim (hp.more ((unhide HW) ob)).ar hp.sim o.text ⟨#[]⟩ o.text)
          clear hp
          set_option maxRecDepth 10000 in
          go_wp2_with (first
            | (go_at_call 69; refine ((unhide H1) _).mono ?_; rintro e w1 ⟨rfl, hu⟩; obtain ⟨Y1, ns1, F1, hp1⟩ := (unhide HP).prog3 o ((unhide HW) _) (by simp) (unhide HB) hu; have t2 := Y1.t; have H2 := hide (refDoctype_sim hp1.rf o.text ⟨#[]⟩ o.text); have HP1 := hide hp1; clear hu hp1 Y1)
            | (go_at_call 70; refine (unhide H2).mono ?_; rintro e w2 ⟨rfl, hu2⟩; have HB2 := hide ((unhide HP1).ref hu2).1; clear hu2))
          go_roundg (gk - 1)
          case measure => omega
          case rel => exact (unhide HFIN) _ _ (unhide HB2)
        by_cases h4 : o.what = 4
        · rw [h4] at d0
          clear h4
          have HB := hide (at3_box wr o (.int .i64 4))
          have H1 := hide (fun ob => fragment_sim (hp.more ((unhide HW) ob)).ar hp.sim)
          clear hp
          set_option maxRecDepth 10000 in
          go_wp2_with (first
            | (go_at_call 71; refine ((unhide H1) _).mono ?_; rintro e w1 ⟨rfl, hu⟩; obtain ⟨Y1, ns1, F1, hp1⟩ := (unhide HP).prog3 o ((unhide HW) _) (by simp) (unhide HB) hu; have t2 := Y1.t; have H2 := hide (refFragment_sim hp1.rf); have HP1 := hide hp1; clear hu hp1 Y1)
            | (go_at_call 72; refine (unhide H2).mono ?_; rintro e w2 ⟨rfl, hu2⟩; have HB2 := hide ((unhide HP1).ref hu2).1; clear hu2))
          go_roundg (gk - 1)
          case measure => omega
          case rel => exact (unhide HFIN) _ _ (unhide HB2)
        by_cases h5 : o.what = 5
        · rw [h5] at d0
          clear h5
          have HB := hide (at3_box wr o (.int .i64 5))
          have H1 := hide (fun ob => link_sim (hp.more ((unhide HW) ob)).ar hp.sim o.a o.b o.c)
          clear hp
          set_option maxRecDepth 10000 in
          go_wp2_with (first
            | (go_at_call 35; refine ((unhide H1) _).mono ?_; rintro e w1 ⟨rfl, hu⟩; obtain ⟨Y1, ns1, F1, hp1⟩ := (unhide HP).prog3 o ((unhide HW) _) (by simp) (unhide HB) hu; have t1 := Y1.a; have t2 := Y1.b; have t3 := Y1.c; have H2 := hide (refLink_sim hp1.rf (unhide HSIM) o.a o.b o.c); have HP1 := hide hp1; clear hu hp1 Y1)
            | (go_at_call 38; refine (unhide H2).mono ?_; rintro e w2 ⟨rfl, hu2⟩; have HB2 := hide ((unhide HP1).ref hu2).1; clear hu2))
          go_roundg (gk - 1)
          case measure => omega
          case rel => exact (unhide HFIN) _ _ (unhide HB2)
        have b0 : (o.what == 0) = false := by simpa using h0
        have b1 : (o.what == 1) = false := by simpa using h1
        have b2 : (o.what == 2) = false := by simpa using h2
        have b3 : (o.what == 3) = false := by simpa using h3
        have b4 : (o.what == 4) = false := by simpa using h4
        have b5 : (o.what == 5) = false := by simpa using h5
        clear h0 h1 h2 h3 h4 h5
        have HB := hide (at3_box wr o (.int .i64 o.what))
        have H1 := hide (fun ob => unlink_sim (hp.more ((unhide HW) ob)).ar hp.sim o.a)
        clear hp
        set_option maxRecDepth 10000 in
        go_wp2_with (first
          | (go_at_call 39; refine ((unhide H1) _).mono ?_; rintro e w1 ⟨rfl, hu⟩; obtain ⟨Y1, ns1, F1, hp1⟩ := (unhide HP).prog3 o ((unhide HW) _) (by simp) (unhide HB) hu; have t1 := Y1.a; have H2 := hide (refUnlink_sim hp1.rf (unhide HSIM) o.a); have HP1 := hide hp1; clear hu hp1 Y1)
          | (go_at_call 40; refine (unhide H2).mono ?_; rintro e w2 ⟨rfl, hu2⟩; have HB2 := hide ((unhide HP1).ref hu2).1; clear hu2))
        go_roundg (gk - 1)
        case measure => omega
        case rel => exact (unhide HFIN) _ _ (unhide HB2)
      · have hjz : (j : Int) < (l.length : Int) := by omega
        have h3z : ¬ (j : Int) < 300 := by omega
        have HB := hide hB
        clear hB
        set_option maxRecDepth 10000 in
        go_wp2
        go_ret2
        exact ⟨bR, rfl, os, unhide HB⟩
    · have hjz : ¬ (j : Int) < (l.length : Int) := by omega
      have HB := hide hB
      clear hB
      set_option maxRecDepth 10000 in
      go_wp2
      go_ret2
      exact ⟨bR, rfl, os, unhide HB⟩

theorem list7 {α : Type} (l : List α) (h : l.length = 7) : ∃ a b c d e f g, l = [a, b, c, d, e, f, g] := by
  match l, h with
  | [a, b, c, d, e, f, g], _ => exact ⟨a, b, c, d, e, f, g, rfl⟩
section
variable {H : Type} {enc : TypeId × Value → H} {W : World} {spare : Nat → Bool} {held : Bool}
theorem op3_cells {fuel : Nat} {cs : List Value} {x : DataW H × List MemPlace} (h : DataW.trod enc Try.prog W 0 spare held fuel 104 cs = some x) :
    ∃ o : Op3, cs = o.cells.toList ∧ AttrsIn W o.la o.l ∧ ((x.1.weights Try.prog 104).all (· ≤ reachBytes) = true → o.l.length * 56 ≤ 140737488351232) := by
  have hc104 : Try.prog.cellsOf 104 = 7 := by kernel_rfl
  have hc30 : Try.prog.cellsOf 30 = 1 := by kernel_rfl
  have hc3 : Try.prog.cellsOf 3 = 1 := by kernel_rfl
  have hc9 : Try.prog.cellsOf 9 = 1 := by kernel_rfl
  obtain ⟨xs, k, _, rfl, hl4, hxl, hfs⟩ := DataW.trod_struct Try.underlying104 h
  rw [hc104] at hl4
  obtain ⟨e0, e1, e2, e3, e4, e5, e6, rfl⟩ := list7 cs hl4
  have hx : xs.length = 7 := by simpa using hxl
  obtain ⟨y0, y1, y2, y3, y4, y5, y6, rfl⟩ := list7 xs hx
  have f0 := hfs 0 _ rfl
  have f1 := hfs 1 _ rfl
  have f2 := hfs 2 _ rfl
  have f3 := hfs 3 _ rfl
  have f4 := hfs 4 _ rfl
  have f5 := hfs 5 _ rfl
  have f6 := hfs 6 _ rfl
  simp [hc3, hc9, hc30] at f0 f1 f2 f3 f4 f5 f6
  obtain ⟨z0, g0, _, _⟩ := DataW.trod_int Try.underlying3 f0
  obtain ⟨z1, g1, _, _⟩ := DataW.trod_int Try.underlying3 f1
  obtain ⟨z2, g2, _, _⟩ := DataW.trod_int Try.underlying3 f2
  obtain ⟨z3, g3, _, _⟩ := DataW.trod_int Try.underlying3 f3
  obtain ⟨z4, g4, _, _⟩ := DataW.trod_int Try.underlying3 f4
  obtain ⟨z5, g5, _, _⟩ := DataW.trod_string Try.underlying9 f5
  obtain ⟨la, cap, l, g6, hin, hw⟩ := attrs_cells f6
  simp at g0 g1 g2 g3 g4 g5 g6
  subst g0 g1 g2 g3 g4 g5 g6
  refine ⟨⟨z0, z1, z2, z3, z4, z5, la, cap, l⟩, rfl, hin, fun hall => hw (List.all_eq_true.2 fun n hn => List.all_eq_true.1 hall n ?_)⟩
  simp only [DataW.weights, Try.underlying104]
  exact DataW.weights_mem_each (j := 6) (t := 30) (d := y6.1) rfl rfl n hn

/-- A script that came in. -/
theorem script3_open {a : Option Addr} {len cap : Nat} {d : DataW H} {ps : List MemPlace}
    (h : DataW.Trod enc Try.prog W 0 spare held 52 (.slice a len cap) d ps) (hsz : (d.weights Try.prog 52).all (· ≤ reachBytes) = true) : ∃ l : List Op3, l.length = len ∧ Script3 W a l ∧ len ≤ maxLen := by
  obtain ⟨fuel, hf⟩ := h
  rcases Go.Deep.open_slice Try.underlying52 hf with ⟨hcs, _⟩ | ⟨x, l, c, m, n, D, Pl, hcs, _, hlc, hcm, hm, hx, hel⟩
  · simp [Value.cells] at hcs
    obtain ⟨rfl, rfl, rfl⟩ := hcs
    exact ⟨[], rfl, ⟨fun i x hi => by simp at hi, fun i x hi => by simp at hi⟩, by simp⟩
  · simp [Value.cells] at hcs
    obtain ⟨rfl, rfl, rfl⟩ := hcs
    simp only [Prod.mk.injEq] at hx
    obtain ⟨rfl, _⟩ := hx
    have hc7 : Try.prog.cellsOf 104 = 7 := by kernel_rfl
    have hlm : len ≤ m := by rw [hm]; split <;> omega
    have one : ∀ i, i < len → ∃ o : Op3, (∃ b off, x = ⟨b, off, none⟩ ∧ ∀ j v, o.cells.toList[j]? = some v → W.cell? ⟨b, off + i * 7 + j, none⟩ = some v) ∧ AttrsIn W o.la o.l ∧ o.l.length * 56 ≤ 140737488351232 := by
      intro i hi
      obtain ⟨cs', hcs', htr⟩ := hel i (by omega)
      rw [hc7] at hcs'
      obtain ⟨o, rfl, hin, hw⟩ := op3_cells htr
      refine ⟨o, ?_, hin, hw (List.all_eq_true.2 fun n hn => List.all_eq_true.1 hsz n ?_)⟩
      · obtain ⟨i0, hi0⟩ : ∃ i0 : Nat, i0 = 0 := ⟨0, rfl⟩
        obtain ⟨cs0, hcs0, htr0⟩ := hel i0 (by omega)
        rw [hc7] at hcs0
        obtain ⟨o', rfl, _, _⟩ := op3_cells htr0
        have p0 := cells_get hcs0 0 _ rfl
        rw [Go.Deep.add_add, show i0 * 7 + 0 = 0 by omega] at p0
        obtain ⟨b, off, rfl⟩ := addr_plain p0
        have ad : ∀ k, (⟨b, off, none⟩ : Addr).add k = ⟨b, off + k, none⟩ := fun k => by unfold Addr.add; split <;> simp_all
        refine ⟨b, off, rfl, fun j v hj => ?_⟩
        have := cells_get hcs' j v hj
        rw [Go.Deep.add_add, ad] at this
        rw [Nat.add_assoc]
        exact this
      · simp only [DataW.weights, Try.underlying52, List.mem_cons, List.mem_append]
        exact .inr (.inl (weightsAll_mem (List.mem_map.2 ⟨i, List.mem_range.2 hi, rfl⟩) n hn))
    obtain ⟨f, hf'⟩ : ∃ f : Nat → Op3, ∀ i, i < len → (∃ b off, x = ⟨b, off, none⟩ ∧ ∀ j v, (f i).cells.toList[j]? = some v → W.cell? ⟨b, off + i * 7 + j, none⟩ = some v) ∧ AttrsIn W (f i).la (f i).l ∧ (f i).l.length * 56 ≤ 140737488351232 := by
      have : Inhabited Op3 := ⟨⟨0, 0, 0, 0, 0, ⟨#[]⟩, none, 0, []⟩⟩
      exact Go.Deep.choose_lt one
    have get : ∀ (i : Nat) y, ((List.range len).map f)[i]? = some y → i < len ∧ f i = y := by
      intro i y hi
      have hlt : i < len := by have := (List.getElem?_eq_some_iff.1 hi).1; simpa using this
      exact ⟨hlt, by simpa [hlt] using hi⟩
    refine ⟨(List.range len).map f, by simp, ⟨fun i y hi => ?_, fun i y hi => ?_⟩, by omega⟩
    · obtain ⟨hlt, rfl⟩ := get i y hi
      obtain ⟨⟨b, off, rfl, hc⟩, _, _⟩ := hf' i hlt
      exact ⟨b, off, rfl, hc 0 _ rfl, hc 1 _ rfl, hc 2 _ rfl, hc 3 _ rfl, hc 4 _ rfl, hc 5 _ rfl, hc 6 _ rfl⟩
    · obtain ⟨hlt, rfl⟩ := get i y hi
      exact (hf' i hlt).2
end
end Go.Proofs.Ytlbkoafeedlfaaa

namespace Go.Proofs.Ytlbkoafeedlfaaa
open Go.RowKit

def tmB (o : OneM) : Bool := o.kind == 1 && o.space == 0 && isT o.name
def TmOk (o : OneM) : Prop := o.inner ≠ -1 ↔ tmB o = true
structure PS (os : List OneM) : Prop where
  doc : ∃ o, os[0]? = some o ∧ o.kind = 0
  tm : ∀ o ∈ os, TmOk o

theorem ps_new : PS [oneM 0] := ⟨⟨oneM 0, rfl, rfl⟩, fun o ho => by
  rw [List.mem_singleton] at ho; subst ho
  unfold TmOk tmB oneM; simp⟩
theorem PS.add {os : List OneM} (h : PS os) (L : List OneM) (hL : ∀ o ∈ L, TmOk o) : PS (os ++ L) := by
  obtain ⟨o, ho, hk⟩ := h.doc
  refine ⟨⟨o, by rw [List.getElem?_append_left (List.getElem?_eq_some_iff.1 ho).1]; exact ho, hk⟩, fun q hq => ?_⟩
  rcases List.mem_append.1 hq with e | e
  · exact h.tm q e
  · exact hL q e
theorem mem_modify {α : Type} {f : α → α} : ∀ {l : List α} {i : Nat} {x : α}, x ∈ l.modify i f → x ∈ l ∨ ∃ y ∈ l, x = f y
  | [], _, _, h => by simp at h
  | a :: l, 0, x, h => by
    rw [List.modify_zero_cons] at h
    rcases List.mem_cons.1 h with e | e
    · exact .inr ⟨a, by simp, e⟩
    · exact .inl (by simp [e])
  | a :: l, i + 1, x, h => by
    rw [List.modify_succ_cons] at h
    rcases List.mem_cons.1 h with e | e
    · exact .inl (by simp [e])
    · rcases mem_modify e with e | ⟨y, hy, e⟩
      · exact .inl (by simp [e])
      · exact .inr ⟨y, by simp [hy], e⟩
theorem PS.modify {os : List OneM} (h : PS os) (i : Nat) (f : OneM → OneM) (hf : ∀ o, (f o).kind = o.kind ∧ (f o).space = o.space ∧ (f o).name = o.name ∧ (f o).inner = o.inner) : PS (os.modify i f) := by
  obtain ⟨o, ho, hk⟩ := h.doc
  refine ⟨?_, fun q hq => ?_⟩
  · rw [List.getElem?_modify]
    split
    · exact ⟨f o, by rw [ho]; rfl, by rw [(hf o).1]; exact hk⟩
    · exact ⟨o, by rw [ho]; rfl, hk⟩
  · rcases mem_modify hq with e | ⟨y, hy, rfl⟩
    · exact h.tm q e
    · have := h.tm y hy
      unfold TmOk tmB at this ⊢
      rw [(hf y).1, (hf y).2.1, (hf y).2.2.1, (hf y).2.2.2]
      exact this
theorem PS.link {os : List OneM} (h : PS os) (p c b : Int) : PS (linkR os p c b) := by
  unfold linkR
  split
  · unfold linkO
    exact (h.modify p.toNat (fun o => { o with kids := insO o.kids b c.toNat }) (fun o => ⟨rfl, rfl, rfl, rfl⟩)).modify c.toNat (fun o => { o with up := (p.toNat : Int) }) (fun o => ⟨rfl, rfl, rfl, rfl⟩)
  · exact h
theorem PS.unlink {os : List OneM} (h : PS os) (c : Int) : PS (unlinkR os c) := by
  unfold unlinkR
  split
  · unfold unlinkO
    exact (h.modify (upIO os c).toNat (fun o => { o with kids := o.kids.filter (· ≠ c.toNat) }) (fun o => ⟨rfl, rfl, rfl, rfl⟩)).modify c.toNat (fun o => { o with up := -1 }) (fun o => ⟨rfl, rfl, rfl, rfl⟩)
  · exact h
theorem PS.addO {os : List OneM} (h : PS os) (q : OneM) (hq : TmOk q) : PS (addO os q).1 := by
  unfold Ytlbkoafeedlfaaa.addO
  split
  · exact h.add [q] (fun o ho => by rw [List.mem_singleton] at ho; subst ho; exact hq)
  · exact h
theorem tm_none (q : OneM) (h1 : q.inner = -1) (h2 : tmB q = false) : TmOk q := by unfold TmOk; rw [h1, h2]; simp
theorem PS.data {os : List OneM} (h : PS os) (k : Int) (hk : k ≠ 1) (s : ByteArray) : PS (dataO os k s).1 := by
  unfold dataO
  split
  · exact h
  · exact h.addO _ (tm_none _ rfl (by unfold tmB dataQ oneM; simp [hk]))
theorem PS.doct {os : List OneM} (h : PS os) (n p s : ByteArray) : PS (docO os n p s).1 := by
  unfold docO
  split
  · exact h
  · exact h.addO _ (tm_none _ rfl (by unfold tmB docQ oneM; simp))
theorem PS.frag {os : List OneM} (h : PS os) : PS (fragO os).1 := h.addO _ (tm_none _ rfl (by unfold tmB oneM; simp))
theorem PS.elem {os : List OneM} (h : PS os) (sp : Int) (n : ByteArray) (l : List AttrM) : PS (elemO os sp n l).1 := by
  unfold elemO
  split
  · exact h
  · split
    · exact h
    · split
      · rename_i hst
        split
        · refine h.add _ (fun o ho => ?_)
          rcases List.mem_cons.1 ho with rfl | ho
          · unfold TmOk tmB elemQ oneM
            simp [hst.1, hst.2]
            omega
          · rw [List.mem_singleton] at ho; subst ho
            exact tm_none _ rfl (by unfold tmB oneM; simp)
        · exact h
      · rename_i hst
        refine h.addO _ (tm_none _ rfl ?_)
        unfold tmB elemQ oneM
        simp
        exact fun e => by simpa using (fun ht => hst ⟨e, ht⟩ : ¬ isT n = true)
end Go.Proofs.Ytlbkoafeedlfaaa

namespace Go.Proofs.Ytlbkoafeedlfaaa
open Go.RowKit

set_option maxHeartbeats 8000000 in
theorem build_ps {w : World} (a : Option Addr) (cap : Nat) (l : List Op3) (hs : Script3 w a l) (hn : l.length ≤ maxLen) :
    Calls Try.prog 27 #[.slice a l.length cap] w fun e w' => ∃ bR os, e = .returned (.tuple #[.pointer (some ⟨w.heap.size + 3, 0, none⟩), .pointer (some ⟨bR, 0, none⟩)]) ∧ Both w w' (w.heap.size + 3) bR os ∧ PS os := by
  have HN := hide (new_any w w.heap.size (Nat.le_refl _))
  have HS := hide hs
  have hlz : (l.length : Int) ≤ 9223372036854775807 := by unfold maxLen at hn; omega
  clear hs hn
  go_enter Try.func27, Try.ntmps27
  set_option maxRecDepth 10000 in
  go_wp2_with (first
    | (go_at_call 13; refine (unhide HN).mono ?_; rintro e w1 ⟨F, rfl, h1, hb1, hF⟩; have HNR := hide (refNew_any w1 w.heap.size hb1.size); have H1 := hide h1; have HB1 := hide hb1; have HF := hide hF; clear h1 hb1 hF)
    | (go_at_call 14; refine (unhide HNR).mono ?_; rintro e w2 ⟨bR, g, cp, rfl, h2, hb2, hR, hg⟩; have HBo := hide (both_new (unhide H1) (unhide HB1) (unhide HF) h2 hb2 hR hg); clear h2 hb2 hR hg))
  go_loopg [6, 7] 300 (fun k s6 _ wx => ∃ (j : Nat) (os : List OneM), s6 = .int .i64 j ∧ j + k = 300 ∧ Both w wx (w.heap.size + 3) bR os ∧ PS os)
  case atStart => exact ⟨0, _, rfl, by omega, unhide HBo, ps_new⟩
  case round =>
    obtain ⟨j, os, rfl, hjk, hB, hps⟩ := hrel
    have HPS := hide hps
    clear hps
    have HBW := hide (show Below w.heap.size w wr by obtain ⟨ns, F0, G0, hp⟩ := hB; exact hp.below)
    by_cases hj : j < l.length
    · by_cases h300 : j < 300
      · have hjz : (j : Int) < (l.length : Int) := by omega
        have h3z : (j : Int) < 300 := by omega
        have hx : l[j]? = some l[j] := List.getElem?_eq_getElem hj
        generalize l[j] = o at hx
        obtain ⟨ha, hr⟩ := (unhide HS).attrs j o hx
        obtain ⟨b, off, rfl, d0, d1, d2, d3, d4, d5, d6⟩ := ((unhide HS).below (unhide HBW)).cells j o hx
        obtain ⟨ns, F, G, hp⟩ := hB
        have hW : ∀ ob, Below wr.heap.size wr (wr.alloc ob) := fun ob => ((Below.refl _ wr).alloc (Nat.le_refl _) ob)
        have HP := hide hp
        have HSIM := hide hp.sim
        have HW := hide hW
        have HAT := hide ha
        have HNL : Hid (o.l.length ≤ maxLen) := hide (by unfold maxLen; omega)
        have HFIN : Hid (∀ wz os', Both w wz (w.heap.size + 3) bR os' → PS os' → ∃ (j_1 : Nat) (os : List OneM), Value.int .i64 ((j : Int) + 1) = .int .i64 j_1 ∧ j_1 + (gk - 1) = 300 ∧ Both w wz (w.heap.size + 3) bR os ∧ PS os) := hide (fun wz os' h hps => ⟨j + 1, os', by simp, by omega, h, hps⟩)
        clear ha hr hx hW
        by_cases h0 : o.what = 0
        · rw [h0] at d0
          clear h0
          have HB := hide (at3_box wr o (.int .i64 0))
          have H1 := hide (fun ob => element_sim (hp.more ((unhide HW) ob)).ar hp.sim o.n o.text o.la o.cap o.l (((unhide HAT).below hp.below).below ((unhide HW) ob)) (unhide HNL))
          clear hp
          set_option maxRecDepth 10000 in
          go_wp2_with (first
            | (go_at_call 34; refine ((unhide H1) _).mono ?_; rintro e w1 ⟨rfl, hu⟩; obtain ⟨Y1, ns1, F1, hp1⟩ := (unhide HP).prog3 o ((unhide HW) _) (by simp) (unhide HB) hu; have t1 := Y1.n; have t2 := Y1.t; have t3 := Y1.l; have H2 := hide (refElement_sim hp1.rf o.n o.text o.la o.cap o.l ((unhide HAT).below hp1.below) (unhide HNL)); have HP1 := hide hp1; clear hu hp1 Y1)
            | (go_at_call 65; refine (unhide H2).mono ?_; rintro e w2 ⟨rfl, hu2⟩; have HB2 := hide ((unhide HP1).ref hu2).1; clear hu2))
          go_roundg (gk - 1)
          case measure => omega
          case rel => exact (unhide HFIN) _ _ (unhide HB2) ((unhide HPS).elem _ _ _)
        by_cases h1 : o.what = 1
        · rw [h1] at d0
          clear h1
          have HB := hide (at3_box wr o (.int .i64 1))
          have H1 := hide (fun ob => text_sim (hp.more ((unhide HW) ob)).ar hp.sim o.text)
          clear hp
          set_option maxRecDepth 10000 in
          go_wp2_with (first
            | (go_at_call 64; refine ((unhide H1) _).mono ?_; rintro e w1 ⟨rfl, hu⟩; obtain ⟨Y1, ns1, F1, hp1⟩ := (unhide HP).prog3 o ((unhide HW) _) (by simp) (unhide HB) hu; have t2 := Y1.t; have H2 := hide (refText_sim hp1.rf o.text); have HP1 := hide hp1; clear hu hp1 Y1)
            | (go_at_call 66; refine (unhide H2).mono ?_; rintro e w2 ⟨rfl, hu2⟩; have HB2 := hide ((unhide HP1).ref hu2).1; clear hu2))
          go_roundg (gk - 1)
          case measure => omega
          case rel => exact (unhide HFIN) _ _ (unhide HB2) ((unhide HPS).data _ (by decide) _)
        by_cases h2 : o.what = 2
        · rw [h2] at d0
          clear h2
          have HB := hide (at3_box wr o (.int .i64 2))
          have H1 := hide (fun ob => comment_sim (hp.more ((unhide HW) ob)).ar hp.sim o.text)
          clear hp
          set_option maxRecDepth 10000 in
          go_wp2_with (first
            | (go_at_call 67; refine ((unhide H1) _).mono ?_; rintro e w1 ⟨rfl, hu⟩; obtain ⟨Y1, ns1, F1, hp1⟩ := (unhide HP).prog3 o ((unhide HW) _) (by simp) (unhide HB) hu; have t2 := Y1.t; have H2 := hide (refComment_sim hp1.rf o.text); have HP1 := hide hp1; clear hu hp1 Y1)
            | (go_at_call 68; refine (unhide H2).mono ?_; rintro e w2 ⟨rfl, hu2⟩; have HB2 := hide ((unhide HP1).ref hu2).1; clear hu2))
          go_roundg (gk - 1)
          case measure => omega
          case rel => exact (unhide HFIN) _ _ (unhide HB2) ((unhide HPS).data _ (by decide) _)
        by_cases h3 : o.what = 3
        · rw [h3] at d0
          clear h3
          have HB := hide (at3_box wr o (.int .i64 3))
          have H1 := hide (fun ob => doctype_sim (hp.more ((unhide HW) ob)).ar hp.sim o.text ⟨#[]⟩ o.text)
          clear hp
          set_option maxRecDepth 10000 in
          go_wp2_with (first
            | (go_at_call 69; refine ((unhide H1) _).mono ?_; rintro e w1 ⟨rfl, hu⟩; obtain ⟨Y1, ns1, F1, hp1⟩ := (unhide HP).prog3 o ((unhide HW) _) (by simp) (unhide HB) hu; have t2 := Y1.t; have H2 := hide (refDoctype_sim hp1.rf o.text ⟨#[]⟩ o.text); have HP1 := hide hp1; clear hu hp1 Y1)
            | (go_at_call 70; refine (unhide H2).mono ?_; rintro e w2 ⟨rfl, hu2⟩; have HB2 := hide ((unhide HP1).ref hu2).1; clear hu2))
          go_roundg (gk - 1)
          case measure => omega
          case rel => exact (unhide HFIN) _ _ (unhide HB2) ((unhide HPS).doct _ _ _)
        by_cases h4 : o.what = 4
        · rw [h4] at d0
          clear h4
          have HB := hide (at3_box wr o (.int .i64 4))
          have H1 := hide (fun ob => fragment_sim (hp.more ((unhide HW) ob)).ar hp.sim)
          clear hp
          set_option maxRecDepth 10000 in
          go_wp2_with (first
            | (go_at_call 71; refine ((unhide H1) _).mono ?_; rintro e w1 ⟨rfl, hu⟩; obtain ⟨Y1, ns1, F1, hp1⟩ := (unhide HP).prog3 o ((unhide HW) _) (by simp) (unhide HB) hu; have t2 := Y1.t; have H2 := hide (refFragment_sim hp1.rf); have HP1 := hide hp1; clear hu hp1 Y1)
            | (go_at_call 72; refine (unhide H2).mono ?_; rintro e w2 ⟨rfl, hu2⟩; have HB2 := hide ((unhide HP1).ref hu2).1; clear hu2))
          go_roundg (gk - 1)
          case measure => omega
          case rel => exact (unhide HFIN) _ _ (unhide HB2) ((unhide HPS).frag)
        by_cases h5 : o.what = 5
        · rw [h5] at d0
          clear h5
          have HB := hide (at3_box wr o (.int .i64 5))
          have H1 := hide (fun ob => link_sim (hp.more ((unhide HW) ob)).ar hp.sim o.a o.b o.c)
          clear hp
          set_option maxRecDepth 10000 in
          go_wp2_with (first
            | (go_at_call 35; refine ((unhide H1) _).mono ?_; rintro e w1 ⟨rfl, hu⟩; obtain ⟨Y1, ns1, F1, hp1⟩ := (unhide HP).prog3 o ((unhide HW) _) (by simp) (unhide HB) hu; have t1 := Y1.a; have t2 := Y1.b; have t3 := Y1.c; have H2 := hide (refLink_sim hp1.rf (unhide HSIM) o.a o.b o.c); have HP1 := hide hp1; clear hu hp1 Y1)
            | (go_at_call 38; refine (unhide H2).mono ?_; rintro e w2 ⟨rfl, hu2⟩; have HB2 := hide ((unhide HP1).ref hu2).1; clear hu2))
          go_roundg (gk - 1)
          case measure => omega
          case rel => exact (unhide HFIN) _ _ (unhide HB2) ((unhide HPS).link _ _ _)
        have b0 : (o.what == 0) = false := by simpa using h0
        have b1 : (o.what == 1) = false := by simpa using h1
        have b2 : (o.what == 2) = false := by simpa using h2
        have b3 : (o.what == 3) = false := by simpa using h3
        have b4 : (o.what == 4) = false := by simpa using h4
        have b5 : (o.what == 5) = false := by simpa using h5
        clear h0 h1 h2 h3 h4 h5
        have HB := hide (at3_box wr o (.int .i64 o.what))
        have H1 := hide (fun ob => unlink_sim (hp.more ((unhide HW) ob)).ar hp.sim o.a)
        clear hp
        set_option maxRecDepth 10000 in
        go_wp2_with (first
          | (go_at_call 39; refine ((unhide H1) _).mono ?_; rintro e w1 ⟨rfl, hu⟩; obtain ⟨Y1, ns1, F1, hp1⟩ := (unhide HP).prog3 o ((unhide HW) _) (by simp) (unhide HB) hu; have t1 := Y1.a; have H2 := hide (refUnlink_sim hp1.rf (unhide HSIM) o.a); have HP1 := hide hp1; clear hu hp1 Y1)
          | (go_at_call 40; refine (unhide H2).mono ?_; rintro e w2 ⟨rfl, hu2⟩; have HB2 := hide ((unhide HP1).ref hu2).1; clear hu2))
        go_roundg (gk - 1)
        case measure => omega
        case rel => exact (unhide HFIN) _ _ (unhide HB2) ((unhide HPS).unlink _)
      · have hjz : (j : Int) < (l.length : Int) := by omega
        have h3z : ¬ (j : Int) < 300 := by omega
        have HB := hide hB
        clear hB
        set_option maxRecDepth 10000 in
        go_wp2
        go_ret2
        exact ⟨bR, rfl, os, unhide HB, unhide HPS⟩
    · have hjz : ¬ (j : Int) < (l.length : Int) := by omega
      have HB := hide hB
      clear hB
      set_option maxRecDepth 10000 in
      go_wp2
      go_ret2
      exact ⟨bR, rfl, os, unhide HB, unhide HPS⟩
end Go.Proofs.Ytlbkoafeedlfaaa

namespace Go.Proofs.Ytlbkoafeedlfaaa
open Go.RowKit

def osX : List OneM := (dataO [oneM 0] 2 ⟨#[120]⟩).1
theorem osX_id : (dataO [oneM 0] 2 ⟨#[120]⟩).2.1 = 1 := by decide +kernel
theorem osX_er : (dataO [oneM 0] 2 ⟨#[120]⟩).2.2 = 0 := by decide +kernel
theorem osX_0 : ∃ o, osX[0]? = some o ∧ o.kids = [] := ⟨oneM 0, by rfl, rfl⟩
theorem osX_same : SSI osX osX 1 1 = true := by decide +kernel

set_option maxHeartbeats 1000000 in
theorem awake3_any (w : World) : Calls Try.prog 30 #[] w fun e w' => e = .returned (.bool true) ∧ Below w.heap.size w w' := by
  have HN := hide (new_any w w.heap.size (Nat.le_refl _))
  go_enter Try.func30, Try.ntmps30
  set_option maxRecDepth 10000 in
  go_wp2_with (first
    | (go_at_call 13; refine (unhide HN).mono ?_; rintro e w1 ⟨F, rfl, h1, hb1, hF⟩; have HT := hide (text_sim h1 Sim.new ⟨#[120]⟩); rw [osX_id, osX_er] at HT; have HB1 := hide hb1; have HF := hide hF; clear h1 hb1 hF)
    | (go_at_call 64; refine (unhide HT).mono ?_; rintro e w2 ⟨rfl, ms, ⟨F2, h2, hm2, hF2⟩, hs2⟩; have HB2 := hide ((unhide HB1).trans (hm2.below (unhide HB1).size (unhide HF))); have H2 := hide h2; have HS2 := hide hs2; have HSH : Hid (Calls Try.prog 28 #[.pointer (some ⟨w.heap.size + 3, 0, none⟩), .int .i64 0] w2 fun e w' => e = .returned (.tuple #[.string ⟨#[]⟩, .int .i64 0]) ∧ Below w2.heap.size w2 w') := hide (by
        obtain ⟨o, ho, hk⟩ := osX_0
        obtain ⟨n, hn, _⟩ := hs2.get ho
        have hp := (hs2.kids 0 o ho).path hn
        rw [hk] at hp
        exact show0 h2 (i := 0) hn hp); clear h2 hm2 hF2 hs2)
    | (go_at_call 28; refine (unhide HSH).mono ?_; rintro e w3 ⟨rfl, hb3⟩; have HSA := hide (sameS_any ((unhide H2).below hb3) ((unhide H2).below hb3) (unhide HS2) (unhide HS2) 1 1); rw [show SSI (dataO [oneM 0] 2 ⟨#[120]⟩).1 (dataO [oneM 0] 2 ⟨#[120]⟩).1 1 1 = true from osX_same] at HSA; have HB3 := hide ((unhide HB2).trans (hb3.mono (unhide HB2).size)); clear hb3)
    | (go_at_call 31; refine (unhide HSA).mono ?_; rintro e w4 ⟨rfl, hb4⟩; have HB4 := hide hb4; clear hb4))
  go_ret
  exact ⟨rfl, (unhide HB3).trans ((unhide HB4).mono (unhide HB3).size)⟩

end Go.Proofs.Ytlbkoafeedlfaaa

namespace Go.Proofs.Ytlbkoafeedlfaaa
open Go.RowKit

def bareN (n : NodeM) : NodeM := { n with av := .slice none 0 0 }

theorem bare_news (w : World) (n : NodeM) : ∀ j u, (bareN n).cells[j]? = some u → ((w.alloc (.cells (bareN n).cells.toArray 37)).alloc (.cells (bareN n).cells.toArray 37)).cell? ((⟨w.heap.size + 1, 0, none⟩ : Addr).add j) = some u := by
  have := World.news_of_block (heap_alloc_new (w.alloc (.cells (bareN n).cells.toArray 37)) (.cells (bareN n).cells.toArray 37))
  rw [show (w.alloc (.cells (bareN n).cells.toArray 37)).heap.size = w.heap.size + 1 by simp] at this
  intro j u hu
  exact this j u (by simpa using hu)
theorem bare_one (n : NodeM) : ∀ u ∈ (bareN n).cells, u.oneCell' = true := by
  intro u hu
  simp [bareN, NodeM.cells] at hu
  rcases hu with rfl | rfl | rfl | rfl | rfl | rfl | rfl | rfl | rfl | rfl | rfl | rfl <;> rfl

set_option maxHeartbeats 2000000 in
theorem linksOf_any {w : World} {base bA : Nat} {ns : List NodeM} {F : Nat → Prop} (h : ArS w base bA ns F) :
    Calls Try.prog 87 #[.pointer (some ⟨bA, 0, none⟩)] w fun e w' => ∃ g cap, e = .returned (.slice (some ⟨g, 0, none⟩) ns.length cap) ∧ w'.ownsRow w.heap.size 37 12 (.slice (some ⟨g, 0, none⟩) ns.length cap) ns.length (nodeRow (ns.map bareN)) ∧ Below w.heap.size w w' := by
  obtain ⟨i0, hi0, hz0, hz1, hz2⟩ := info_parts Try.info37
  have hmost : ns.length ≤ 32768 := by obtain ⟨bS, g, cap, har, _⟩ := h; exact har.most
  have HL : Hid (∀ W, Below w.heap.size w W → Calls Try.prog 17 #[.pointer (some ⟨bA, 0, none⟩)] W fun e w' => e = .returned (.int .i64 ns.length) ∧ W = w') := hide (fun W hW => by
    obtain ⟨bS, g, cap, har, _⟩ := h.below hW
    exact len_any har)
  have HN : Hid (∀ (i : Nat) n, ns[i]? = some n → ∀ W, Below w.heap.size w W → Calls Try.prog 18 #[.pointer (some ⟨bA, 0, none⟩), .int .i64 i] W fun e w' => ∃ a c, e = .returned (.tuple #[.agg #[.int .i64 n.kind, .int .i64 n.space, .string n.name, .slice a n.attrs.length c, .string n.data, .string n.system, .int .i64 n.parent, .int .i64 n.first, .int .i64 n.last, .int .i64 n.prev, .int .i64 n.next, .int .i64 n.inner], .int .i64 0]) ∧ Below W.heap.size W w') := hide (fun i n hn W hW => (nodeA h hW hn).mono fun e w' ⟨a, c, h1, _, h3⟩ => ⟨a, c, h1, h3⟩)
  have hmz : (ns.length : Int) ≤ 32768 := by omega
  have HM := hide hmost
  have HB0 := hide (Below.refl w.heap.size w)
  clear h hmost
  go_enter Try.func87, Try.ntmps87
  set_option maxRecDepth 10000 in
  go_wp2_with (first
    | (go_at_call 17; refine ((unhide HL) _ (by first | exact unhide HB0 | exact unhide HG1)).mono ?_; rintro e w' ⟨rfl, rfl⟩)
    | (at_make; go_must (refine wpList_make_own _ rfl _ _ 70 rfl w.heap.size 37 i0 _ 12 Try.underlying70 hi0 hz0 hz1 _ _ _ ns.length rfl rfl rfl (by rw [hz2]; have := unhide HM; omega) (by unfold maxLen; have := unhide HM; omega) (Nat.le_refl _) ?_); intro w1 hown1 hgrow1; have HO1 := hide hown1; have HG1 : Hid (Below w.heap.size w w1) := hide ((Below.refl _ w).grown hgrow1 (Nat.le_refl _) (by simp)); clear hown1 hgrow1))
  go_loopg [3, 4, 5, 6, 12] ns.length (fun k s3 _ _ _ s12 wx => ∃ (j g cap : Nat), s12 = .int .i64 j ∧ s3 = .slice (some ⟨g, 0, none⟩) j cap ∧ j + k = ns.length ∧ wx.ownsRow w.heap.size 37 12 (.slice (some ⟨g, 0, none⟩) j cap) j (nodeRow ((ns.take j).map bareN)) ∧ Below w.heap.size w wx)
  case atStart => exact ⟨0, _, _, rfl, rfl, by omega, by simpa [nodeRow] using unhide HO1, unhide HG1⟩
  case round =>
    clear HO1 HG1
    obtain ⟨j, g, cap, rfl, rfl, hjk, hown, hbw⟩ := hrel
    have HO := hide hown
    have HBW := hide hbw
    clear hown hbw
    by_cases hj : j < ns.length
    · have hjz : (j : Int) < (ns.length : Int) := by omega
      obtain ⟨n, hn⟩ : ∃ n, ns[j]? = some n := ⟨_, List.getElem?_eq_getElem hj⟩
      have HNJ := hide ((unhide HN) j n hn)
      have HNN := hide hn
      have HONE := hide (bare_one n)
      clear hn
      set_option maxRecDepth 10000 in
      go_wp2_with (first
        | (go_at_call 18; refine ((unhide HNJ) _ (unhide HBW)).mono ?_; rintro e w3 ⟨a, c, rfl, hb3⟩; have HBW3 : Hid (Below w.heap.size w w3) := hide ((unhide HBW).trans (hb3.mono (unhide HBW).size)); have HO3 : Hid (w3.ownsRow w.heap.size 37 12 (.slice (some ⟨g, 0, none⟩) j cap) j (nodeRow ((ns.take j).map bareN))) := hide (ownsRow_kept (unhide HO) (fun k hk => hb3.block k (ownsRow_base (unhide HO) hk).2)); have HNEWS := hide (bare_news w3 n); clear hb3)
        | (at_builtin; go_must (refine wpList_append_lies _ (by rfl) _ _ 70 (by rfl) w.heap.size 37 i0 _ 12 136 Try.underlying70 hi0 hz0 hz1 hz2 rfl (by omega) (.slice (some ⟨g, 0, none⟩) j cap) j (nodeRow ((ns.take j).map bareN)) (by rfl) (by exact ((unhide HO3).alloc _).alloc _) ⟨w3.heap.size + 1, 0, none⟩ 1 1 (bareN n).cells (by rfl) (by rfl) (by exact unhide HNEWS) (by exact unhide HONE) (by omega) (by unfold maxLen; have := unhide HM; omega) (by have := unhide HM; omega) (by have := (unhide HBW3).size; simp; omega) _ rfl ?_); intro g1 c1 w5 hown1 hgrow1 hat1 hlt1; have HO5 := hide hown1; have HB5 : Hid (Below w.heap.size w w5) := hide ((((unhide HBW3).alloc (unhide HBW3).size _).alloc (by have := (unhide HBW3).size; simp; omega) _).grown hgrow1 (by have := (unhide HBW3).size; simp; omega) (fun k hk => (ownsRow_base (unhide HO3) hk).1)); clear hown1 hgrow1 hat1 hlt1))
      go_roundg (gk - 1)
      case measure => omega
      case rel =>
        refine ⟨j + 1, g1, c1, by go_num, rfl, by omega, ?_, unhide HB5⟩
        have e : (ns.take (j + 1)).map bareN = (ns.take j).map bareN ++ [bareN n] := by rw [List.take_add_one, unhide HNN]; simp
        rw [e]
        have := unhide HO5
        simpa [nodeRow] using this
    · have hjz : ¬ (j : Int) < (ns.length : Int) := by omega
      obtain rfl : j = ns.length := by omega
      set_option maxRecDepth 10000 in
      go_wp2
      go_ret
      have := unhide HO
      rw [List.take_length] at this
      exact ⟨g, cap, rfl, this, unhide HBW⟩
end Go.Proofs.Ytlbkoafeedlfaaa

namespace Go.Proofs.Ytlbkoafeedlfaaa
open Go.RowKit

/-- Node n lies in block g at place i. -/
structure NAt (w : World) (g i : Nat) (n : NodeM) : Prop where
  c0 : w.cell? ⟨g, i * 12, none⟩ = some (.int .i64 n.kind)
  c1 : w.cell? ⟨g, i * 12 + 1, none⟩ = some (.int .i64 n.space)
  c2 : w.cell? ⟨g, i * 12 + 2, none⟩ = some (.string n.name)
  c3 : w.cell? ⟨g, i * 12 + 3, none⟩ = some (.slice none 0 0)
  c4 : w.cell? ⟨g, i * 12 + 4, none⟩ = some (.string n.data)
  c5 : w.cell? ⟨g, i * 12 + 5, none⟩ = some (.string n.system)
  c6 : w.cell? ⟨g, i * 12 + 6, none⟩ = some (.int .i64 n.parent)
  c7 : w.cell? ⟨g, i * 12 + 7, none⟩ = some (.int .i64 n.first)
  c8 : w.cell? ⟨g, i * 12 + 8, none⟩ = some (.int .i64 n.last)
  c9 : w.cell? ⟨g, i * 12 + 9, none⟩ = some (.int .i64 n.prev)
  c10 : w.cell? ⟨g, i * 12 + 10, none⟩ = some (.int .i64 n.next)
  c11 : w.cell? ⟨g, i * 12 + 11, none⟩ = some (.int .i64 n.inner)
def Nods (w : World) (g : Nat) (ns : List NodeM) : Prop := g < w.heap.size ∧ ∀ (i : Nat) n, ns[i]? = some n → NAt w g i n

set_option maxHeartbeats 2000000 in
theorem kidsAgree_none {w : World} {g cap : Nat} {ns : List NodeM} (h : Nods w g ns) (i : Nat) (n : NodeM) (hi : ns[i]? = some n) (h1 : n.first = -1) (h2 : n.last = -1) :
    Calls Try.prog 124 #[.slice (some ⟨g, 0, none⟩) ns.length cap, .int .i64 i] w fun e w' => e = .returned (.bool true) ∧ Below w.heap.size w w' := by
  have bbi : (i : Int) < ns.length := by have := (List.getElem?_eq_some_iff.1 hi).1; omega
  have qi : ((i : Int) == -1) = false := by rw [beq_eq_false_iff_ne]; omega
  have ri : ((i : Int) != -1) = true := by rw [bne_iff_ne]; omega
  obtain ⟨c0, c1, c2, c3, c4, c5, c6, c7, c8, c9, c10, c11⟩ := h.2 i n hi
  rw [h1] at c7
  rw [h2] at c8
  have hG : g < w.heap.size := h.1
  clear h hi
  go_enter Try.func124, Try.ntmps124
  set_option maxRecDepth 10000 in
  go_wp2
  go_ret
  exact ⟨rfl, by repeat (first | exact Below.refl _ _ | refine below_drewN' ?_ _ | refine Below.drew ?_ | refine Below.alloc ?_ (by simp) _)⟩

set_option maxHeartbeats 2000000 in
theorem nbrs_none {w : World} {g cap : Nat} {ns : List NodeM} (h : Nods w g ns) (i : Nat) (n : NodeM) (hi : ns[i]? = some n) (h1 : n.parent = -1) (h2 : n.prev = -1) (h3 : n.next = -1) :
    Calls Try.prog 125 #[.slice (some ⟨g, 0, none⟩) ns.length cap, .int .i64 i] w fun e w' => e = .returned (.bool true) ∧ Below w.heap.size w w' := by
  have bbi : (i : Int) < ns.length := by have := (List.getElem?_eq_some_iff.1 hi).1; omega
  have qi : ((i : Int) == -1) = false := by rw [beq_eq_false_iff_ne]; omega
  have ri : ((i : Int) != -1) = true := by rw [bne_iff_ne]; omega
  obtain ⟨c0, c1, c2, c3, c4, c5, c6, c7, c8, c9, c10, c11⟩ := h.2 i n hi
  rw [h1] at c6
  rw [h2] at c9
  rw [h3] at c10
  have hG : g < w.heap.size := h.1
  clear h hi
  go_enter Try.func125, Try.ntmps125
  set_option maxRecDepth 10000 in
  go_wp2
  go_ret
  exact ⟨rfl, by repeat (first | exact Below.refl _ _ | refine below_drewN' ?_ _ | refine Below.drew ?_ | refine Below.alloc ?_ (by simp) _)⟩

set_option maxHeartbeats 2000000 in
theorem nbrs_only {w : World} {g cap : Nat} {ns : List NodeM} (h : Nods w g ns) (i : Nat) (n : NodeM) (hi : ns[i]? = some n) (p : Nat) (np : NodeM) (hp : ns[p]? = some np) (h1 : n.parent = p) (h2 : n.prev = -1) (h3 : n.next = -1) (h4 : np.first = i) (h5 : np.last = i) :
    Calls Try.prog 125 #[.slice (some ⟨g, 0, none⟩) ns.length cap, .int .i64 i] w fun e w' => e = .returned (.bool true) ∧ Below w.heap.size w w' := by
  have bbi : (i : Int) < ns.length := by have := (List.getElem?_eq_some_iff.1 hi).1; omega
  have qi : ((i : Int) == -1) = false := by rw [beq_eq_false_iff_ne]; omega
  have ri : ((i : Int) != -1) = true := by rw [bne_iff_ne]; omega
  obtain ⟨c0, c1, c2, c3, c4, c5, c6, c7, c8, c9, c10, c11⟩ := h.2 i n hi
  rw [h1] at c6
  rw [h2] at c9
  rw [h3] at c10
  have bbp : (p : Int) < ns.length := by have := (List.getElem?_eq_some_iff.1 hp).1; omega
  have qp : ((p : Int) == -1) = false := by rw [beq_eq_false_iff_ne]; omega
  have rp : ((p : Int) != -1) = true := by rw [bne_iff_ne]; omega
  obtain ⟨d0, d1, d2, d3, d4, d5, d6, d7, d8, d9, d10, d11⟩ := h.2 p np hp
  rw [h4] at d7
  rw [h5] at d8
  have hG : g < w.heap.size := h.1
  clear h hi hp
  go_enter Try.func125, Try.ntmps125
  set_option maxRecDepth 10000 in
  go_wp2
  go_ret
  exact ⟨rfl, by repeat (first | exact Below.refl _ _ | refine below_drewN' ?_ _ | refine Below.drew ?_ | refine Below.alloc ?_ (by simp) _)⟩

end Go.Proofs.Ytlbkoafeedlfaaa

namespace Go.Proofs.Ytlbkoafeedlfaaa
open Go.RowKit

set_option maxHeartbeats 2000000 in
theorem nbrs_first {w : World} {g cap : Nat} {ns : List NodeM} (h : Nods w g ns) (i : Nat) (n : NodeM) (hi : ns[i]? = some n) (p : Nat) (np : NodeM) (hp : ns[p]? = some np) (y : Nat) (ny : NodeM) (hy : ns[y]? = some ny) (h1 : n.parent = p) (h2 : n.prev = -1) (h3 : n.next = y) (h4 : np.first = i) (h5 : ny.prev = i) (h6 : ny.parent = p) :
    Calls Try.prog 125 #[.slice (some ⟨g, 0, none⟩) ns.length cap, .int .i64 i] w fun e w' => e = .returned (.bool true) ∧ Below w.heap.size w w' := by
  have bbi : (i : Int) < ns.length := by have := (List.getElem?_eq_some_iff.1 hi).1; omega
  have qi : ((i : Int) == -1) = false := by rw [beq_eq_false_iff_ne]; omega
  have ri : ((i : Int) != -1) = true := by rw [bne_iff_ne]; omega
  obtain ⟨c0, c1, c2, c3, c4, c5, c6, c7, c8, c9, c10, c11⟩ := h.2 i n hi
  rw [h1] at c6
  rw [h2] at c9
  rw [h3] at c10
  have bbp : (p : Int) < ns.length := by have := (List.getElem?_eq_some_iff.1 hp).1; omega
  have qp : ((p : Int) == -1) = false := by rw [beq_eq_false_iff_ne]; omega
  have rp : ((p : Int) != -1) = true := by rw [bne_iff_ne]; omega
  obtain ⟨d0, d1, d2, d3, d4, d5, d6, d7, d8, d9, d10, d11⟩ := h.2 p np hp
  rw [h4] at d7
  have bby : (y : Int) < ns.length := by have := (List.getElem?_eq_some_iff.1 hy).1; omega
  have qy : ((y : Int) == -1) = false := by rw [beq_eq_false_iff_ne]; omega
  have ry : ((y : Int) != -1) = true := by rw [bne_iff_ne]; omega
  obtain ⟨m0, m1, m2, m3, m4, m5, m6, m7, m8, m9, m10, m11⟩ := h.2 y ny hy
  rw [h5] at m9
  rw [h6] at m6
  have hG : g < w.heap.size := h.1
  clear h hi hp hy
  go_enter Try.func125, Try.ntmps125
  set_option maxRecDepth 10000 in
  (go_wp2; go_quiet (fail); go_wp2)
  go_ret
  exact ⟨rfl, by repeat (first | exact Below.refl _ _ | refine below_drewN' ?_ _ | refine Below.drew ?_ | refine Below.alloc ?_ (by simp) _)⟩

set_option maxHeartbeats 2000000 in
theorem nbrs_last {w : World} {g cap : Nat} {ns : List NodeM} (h : Nods w g ns) (i : Nat) (n : NodeM) (hi : ns[i]? = some n) (p : Nat) (np : NodeM) (hp : ns[p]? = some np) (x : Nat) (nx : NodeM) (hx : ns[x]? = some nx) (h1 : n.parent = p) (h2 : n.prev = x) (h3 : n.next = -1) (h4 : np.last = i) (h5 : nx.next = i) (h6 : nx.parent = p) :
    Calls Try.prog 125 #[.slice (some ⟨g, 0, none⟩) ns.length cap, .int .i64 i] w fun e w' => e = .returned (.bool true) ∧ Below w.heap.size w w' := by
  have bbi : (i : Int) < ns.length := by have := (List.getElem?_eq_some_iff.1 hi).1; omega
  have qi : ((i : Int) == -1) = false := by rw [beq_eq_false_iff_ne]; omega
  have ri : ((i : Int) != -1) = true := by rw [bne_iff_ne]; omega
  obtain ⟨c0, c1, c2, c3, c4, c5, c6, c7, c8, c9, c10, c11⟩ := h.2 i n hi
  rw [h1] at c6
  rw [h2] at c9
  rw [h3] at c10
  have bbp : (p : Int) < ns.length := by have := (List.getElem?_eq_some_iff.1 hp).1; omega
  have qp : ((p : Int) == -1) = false := by rw [beq_eq_false_iff_ne]; omega
  have rp : ((p : Int) != -1) = true := by rw [bne_iff_ne]; omega
  obtain ⟨d0, d1, d2, d3, d4, d5, d6, d7, d8, d9, d10, d11⟩ := h.2 p np hp
  rw [h4] at d8
  have bbx : (x : Int) < ns.length := by have := (List.getElem?_eq_some_iff.1 hx).1; omega
  have qx : ((x : Int) == -1) = false := by rw [beq_eq_false_iff_ne]; omega
  have rx : ((x : Int) != -1) = true := by rw [bne_iff_ne]; omega
  obtain ⟨k0, k1, k2, k3, k4, k5, k6, k7, k8, k9, k10, k11⟩ := h.2 x nx hx
  rw [h5] at k10
  rw [h6] at k6
  have hG : g < w.heap.size := h.1
  clear h hi hp hx
  go_enter Try.func125, Try.ntmps125
  set_option maxRecDepth 10000 in
  (go_wp2; go_quiet (fail); go_wp2)
  go_ret
  exact ⟨rfl, by repeat (first | exact Below.refl _ _ | refine below_drewN' ?_ _ | refine Below.drew ?_ | refine Below.alloc ?_ (by simp) _)⟩

set_option maxHeartbeats 2000000 in
theorem nbrs_mid {w : World} {g cap : Nat} {ns : List NodeM} (h : Nods w g ns) (i : Nat) (n : NodeM) (hi : ns[i]? = some n) (x : Nat) (nx : NodeM) (hx : ns[x]? = some nx) (y : Nat) (ny : NodeM) (hy : ns[y]? = some ny) (p : Nat) (h1 : n.parent = p) (h2 : n.prev = x) (h3 : n.next = y) (h5 : nx.next = i) (h6 : nx.parent = p) (h7 : ny.prev = i) (h8 : ny.parent = p) :
    Calls Try.prog 125 #[.slice (some ⟨g, 0, none⟩) ns.length cap, .int .i64 i] w fun e w' => e = .returned (.bool true) ∧ Below w.heap.size w w' := by
  have bbi : (i : Int) < ns.length := by have := (List.getElem?_eq_some_iff.1 hi).1; omega
  have qi : ((i : Int) == -1) = false := by rw [beq_eq_false_iff_ne]; omega
  have ri : ((i : Int) != -1) = true := by rw [bne_iff_ne]; omega
  obtain ⟨c0, c1, c2, c3, c4, c5, c6, c7, c8, c9, c10, c11⟩ := h.2 i n hi
  rw [h1] at c6
  rw [h2] at c9
  rw [h3] at c10
  have bbx : (x : Int) < ns.length := by have := (List.getElem?_eq_some_iff.1 hx).1; omega
  have qx : ((x : Int) == -1) = false := by rw [beq_eq_false_iff_ne]; omega
  have rx : ((x : Int) != -1) = true := by rw [bne_iff_ne]; omega
  obtain ⟨k0, k1, k2, k3, k4, k5, k6, k7, k8, k9, k10, k11⟩ := h.2 x nx hx
  rw [h5] at k10
  rw [h6] at k6
  have bby : (y : Int) < ns.length := by have := (List.getElem?_eq_some_iff.1 hy).1; omega
  have qy : ((y : Int) == -1) = false := by rw [beq_eq_false_iff_ne]; omega
  have ry : ((y : Int) != -1) = true := by rw [bne_iff_ne]; omega
  obtain ⟨m0, m1, m2, m3, m4, m5, m6, m7, m8, m9, m10, m11⟩ := h.2 y ny hy
  rw [h7] at m9
  rw [h8] at m6
  have qp : ((p : Int) == -1) = false := by rw [beq_eq_false_iff_ne]; omega
  have hG : g < w.heap.size := h.1
  clear h hi hx hy
  go_enter Try.func125, Try.ntmps125
  set_option maxRecDepth 10000 in
  (go_wp2; go_quiet (fail); go_wp2; try (go_quiet (fail); go_wp2))
  go_ret
  exact ⟨rfl, by repeat (first | exact Below.refl _ _ | refine below_drewN' ?_ _ | refine Below.drew ?_ | refine Below.alloc ?_ (by simp) _)⟩

end Go.Proofs.Ytlbkoafeedlfaaa

namespace Go.Proofs.Ytlbkoafeedlfaaa
open Go.RowKit

set_option maxHeartbeats 2000000 in
theorem kidsAgree_some {w : World} {g cap : Nat} {ns : List NodeM} (h : Nods w g ns) (i : Nat) (n : NodeM) (hi : ns[i]? = some n) (x : Nat) (nx : NodeM) (hx : ns[x]? = some nx) (y : Nat) (ny : NodeM) (hy : ns[y]? = some ny) (h1 : n.first = x) (h2 : n.last = y) (h3 : nx.parent = i) (h4 : nx.prev = -1) (h5 : ny.parent = i) (h6 : ny.next = -1) :
    Calls Try.prog 124 #[.slice (some ⟨g, 0, none⟩) ns.length cap, .int .i64 i] w fun e w' => e = .returned (.bool true) ∧ Below w.heap.size w w' := by
  have bbi : (i : Int) < ns.length := by have := (List.getElem?_eq_some_iff.1 hi).1; omega
  have qi : ((i : Int) == -1) = false := by rw [beq_eq_false_iff_ne]; omega
  have ri : ((i : Int) != -1) = true := by rw [bne_iff_ne]; omega
  obtain ⟨c0, c1, c2, c3, c4, c5, c6, c7, c8, c9, c10, c11⟩ := h.2 i n hi
  rw [h1] at c7
  rw [h2] at c8
  have bbx : (x : Int) < ns.length := by have := (List.getElem?_eq_some_iff.1 hx).1; omega
  have qx : ((x : Int) == -1) = false := by rw [beq_eq_false_iff_ne]; omega
  have rx : ((x : Int) != -1) = true := by rw [bne_iff_ne]; omega
  obtain ⟨k0, k1, k2, k3, k4, k5, k6, k7, k8, k9, k10, k11⟩ := h.2 x nx hx
  rw [h3] at k6
  rw [h4] at k9
  have bby : (y : Int) < ns.length := by have := (List.getElem?_eq_some_iff.1 hy).1; omega
  have qy : ((y : Int) == -1) = false := by rw [beq_eq_false_iff_ne]; omega
  have ry : ((y : Int) != -1) = true := by rw [bne_iff_ne]; omega
  obtain ⟨m0, m1, m2, m3, m4, m5, m6, m7, m8, m9, m10, m11⟩ := h.2 y ny hy
  rw [h5] at m6
  rw [h6] at m10
  have hG1 : g < w.heap.size + 1 := by have := h.1; omega
  have hG2 : g < w.heap.size + 1 + 1 := by have := h.1; omega
  have hG3 : g < w.heap.size + 2 := by have := h.1; omega
  have hN0 : g ≠ w.heap.size := by have := h.1; omega
  have hN1 : g ≠ w.heap.size + 1 := by have := h.1; omega
  have hN2 : g ≠ w.heap.size + 1 + 1 := by have := h.1; omega
  have hN3 : g ≠ w.heap.size + 2 := by have := h.1; omega
  have hG : g < w.heap.size := h.1
  clear h hi hx hy
  go_enter Try.func124, Try.ntmps124
  set_option maxRecDepth 10000 in
  (go_wp2; go_region; all_goals go_wp2)
  all_goals
  go_ret
  exact ⟨rfl, by repeat (first | exact Below.refl _ _ | refine below_drewN' ?_ _ | refine Below.drew ?_ | refine Below.alloc ?_ (by simp <;> omega) _)⟩

end Go.Proofs.Ytlbkoafeedlfaaa

namespace Go.Proofs.Ytlbkoafeedlfaaa
open Go.RowKit

set_option maxHeartbeats 2000000 in
theorem contents_n1 {w : World} {g cap : Nat} {ns : List NodeM} (h : Nods w g ns) (i : Nat) (n : NodeM) (hi : ns[i]? = some n) (h1 : (n.kind == 1) = false) (h2 : n.inner = -1) :
    Calls Try.prog 126 #[.slice (some ⟨g, 0, none⟩) ns.length cap, .int .i64 i] w fun e w' => e = .returned (.bool true) ∧ Below w.heap.size w w' := by
  have bbi : (i : Int) < ns.length := by have := (List.getElem?_eq_some_iff.1 hi).1; omega
  have qi : ((i : Int) == -1) = false := by rw [beq_eq_false_iff_ne]; omega
  have ri : ((i : Int) != -1) = true := by rw [bne_iff_ne]; omega
  obtain ⟨c0, c1, c2, c3, c4, c5, c6, c7, c8, c9, c10, c11⟩ := h.2 i n hi
  rw [h2] at c11
  have hG : g < w.heap.size := h.1
  clear h hi
  go_enter Try.func126, Try.ntmps126
  set_option maxRecDepth 10000 in
  go_wp2
  go_ret
  exact ⟨rfl, by repeat (first | exact Below.refl _ _ | refine below_drewN' ?_ _ | refine Below.drew ?_ | refine Below.alloc ?_ (by simp) _)⟩

set_option maxHeartbeats 2000000 in
theorem contents_n2 {w : World} {g cap : Nat} {ns : List NodeM} (h : Nods w g ns) (i : Nat) (n : NodeM) (hi : ns[i]? = some n) (h1 : n.kind = 1) (h3 : (n.space == 0) = false) (h2 : n.inner = -1) :
    Calls Try.prog 126 #[.slice (some ⟨g, 0, none⟩) ns.length cap, .int .i64 i] w fun e w' => e = .returned (.bool true) ∧ Below w.heap.size w w' := by
  have bbi : (i : Int) < ns.length := by have := (List.getElem?_eq_some_iff.1 hi).1; omega
  have qi : ((i : Int) == -1) = false := by rw [beq_eq_false_iff_ne]; omega
  have ri : ((i : Int) != -1) = true := by rw [bne_iff_ne]; omega
  obtain ⟨c0, c1, c2, c3, c4, c5, c6, c7, c8, c9, c10, c11⟩ := h.2 i n hi
  rw [h1] at c0
  rw [h2] at c11
  have hG : g < w.heap.size := h.1
  clear h hi
  go_enter Try.func126, Try.ntmps126
  set_option maxRecDepth 10000 in
  go_wp2
  go_ret
  exact ⟨rfl, by repeat (first | exact Below.refl _ _ | refine below_drewN' ?_ _ | refine Below.drew ?_ | refine Below.alloc ?_ (by simp) _)⟩

set_option maxHeartbeats 2000000 in
theorem contents_n3 {w : World} {g cap : Nat} {ns : List NodeM} (h : Nods w g ns) (i : Nat) (n : NodeM) (hi : ns[i]? = some n) (h1 : n.kind = 1) (h3 : n.space = 0) (h4 : isT n.name = false) (h2 : n.inner = -1) :
    Calls Try.prog 126 #[.slice (some ⟨g, 0, none⟩) ns.length cap, .int .i64 i] w fun e w' => e = .returned (.bool true) ∧ Below w.heap.size w w' := by
  have bbi : (i : Int) < ns.length := by have := (List.getElem?_eq_some_iff.1 hi).1; omega
  have qi : ((i : Int) == -1) = false := by rw [beq_eq_false_iff_ne]; omega
  have ri : ((i : Int) != -1) = true := by rw [bne_iff_ne]; omega
  obtain ⟨c0, c1, c2, c3, c4, c5, c6, c7, c8, c9, c10, c11⟩ := h.2 i n hi
  rw [h1] at c0
  rw [h3] at c1
  rw [h2] at c11
  unfold isT at h4
  have hG : g < w.heap.size := h.1
  clear h hi
  go_enter Try.func126, Try.ntmps126
  set_option maxRecDepth 10000 in
  go_wp2
  go_ret
  exact ⟨rfl, by repeat (first | exact Below.refl _ _ | refine below_drewN' ?_ _ | refine Below.drew ?_ | refine Below.alloc ?_ (by simp) _)⟩

set_option maxHeartbeats 2000000 in
theorem contents_some {w : World} {g cap : Nat} {ns : List NodeM} (h : Nods w g ns) (i : Nat) (n : NodeM) (hi : ns[i]? = some n) (y : Nat) (ny : NodeM) (hy : ns[y]? = some ny) (h1 : n.kind = 1) (h2 : n.space = 0) (h3 : isT n.name = true) (h4 : n.inner = y) (h5 : ny.kind = 5) (h6 : ny.parent = -1) :
    Calls Try.prog 126 #[.slice (some ⟨g, 0, none⟩) ns.length cap, .int .i64 i] w fun e w' => e = .returned (.bool true) ∧ Below w.heap.size w w' := by
  have bbi : (i : Int) < ns.length := by have := (List.getElem?_eq_some_iff.1 hi).1; omega
  have qi : ((i : Int) == -1) = false := by rw [beq_eq_false_iff_ne]; omega
  have ri : ((i : Int) != -1) = true := by rw [bne_iff_ne]; omega
  obtain ⟨c0, c1, c2, c3, c4, c5, c6, c7, c8, c9, c10, c11⟩ := h.2 i n hi
  rw [h1] at c0
  rw [h2] at c1
  rw [h4] at c11
  have bby : (y : Int) < ns.length := by have := (List.getElem?_eq_some_iff.1 hy).1; omega
  have qy : ((y : Int) == -1) = false := by rw [beq_eq_false_iff_ne]; omega
  have ry : ((y : Int) != -1) = true := by rw [bne_iff_ne]; omega
  obtain ⟨m0, m1, m2, m3, m4, m5, m6, m7, m8, m9, m10, m11⟩ := h.2 y ny hy
  rw [h5] at m0
  rw [h6] at m6
  unfold isT at h3
  have hG : g < w.heap.size := h.1
  clear h hi hy
  go_enter Try.func126, Try.ntmps126
  set_option maxRecDepth 10000 in
  go_wp2
  go_ret
  exact ⟨rfl, by repeat (first | exact Below.refl _ _ | refine below_drewN' ?_ _ | refine Below.drew ?_ | refine Below.alloc ?_ (by simp) _)⟩

end Go.Proofs.Ytlbkoafeedlfaaa

namespace Go.Proofs.Ytlbkoafeedlfaaa
open Go.RowKit

theorem Try.info3i : (Try.prog.info? 3).map (fun i => (i.zero, i.size, i.bytes)) = some (some (.int .i64 0), 1, 8) := by kernel_rfl

theorem one_newsS (w : World) (t : TypeId) (x : Value) : ∀ j u, [x][j]? = some u → (w.alloc (.cells #[x] t)).cell? ((⟨w.heap.size, 0, none⟩ : Addr).add j) = some u :=
  World.news_of_block (heap_alloc_new w (.cells #[x] t))

set_option maxHeartbeats 1000000 in
theorem push_int {w : World} {base b n : Nat} {xs : List Value} {F : Nat → Prop} (h : StS w base b 180 3 1 n xs F) (x : Int) (hn : n ≤ 100000) :
    Calls Try.prog 143 #[.pointer (some ⟨b, 0, none⟩), .int .i64 x] w fun e w' => e = .returned (.tuple #[]) ∧ UpdSt F w w' base b 180 3 1 (n + 1) (xs ++ [.int .i64 x]) := by
  obtain ⟨v, h, hF⟩ := h
  obtain ⟨ga, cap, rfl, _⟩ := h.cut n (Nat.le_refl _)
  obtain ⟨i0, hi0, hz0, hz1, hz2⟩ := info_parts Try.info3i
  have hc := h.cell
  have hfz := h.free
  have hlt := h.lt
  have hfar := h.far
  have HH := hide h
  have HFF := hide hF
  have HLO := hide h.lo
  have HR := hide h.row
  have HNN := hide hn
  clear h hF hn
  go_enter Try.func143, Try.ntmps143
  set_option maxRecDepth 10000 in
  go_wp2_with (at_builtin; go_must (refine wpList_append_lies _ (by rfl) _ _ 41 (by rfl) base 3 i0 _ 1 8 Try.underlying41 hi0 hz0 hz1 hz2 rfl (by omega) (.slice ga n cap) n xs (by rfl) (by exact (unhide HR).alloc _) ⟨w.heap.size, 0, none⟩ 1 1 [.int .i64 x] (by rfl) (by rfl) (by exact one_newsS w 3 (.int .i64 x)) (by simp [Value.oneCell']) (by omega) (by unfold maxLen; have := unhide HNN; omega) (by have := unhide HNN; omega) (by exact Nat.le_trans (unhide HLO) (by simp; omega)) (w.heap.size + 1) (by simp) ?_); intro g' cap' w1 hown1 hgrow hat hl1; have hc1 : w1.cell? ⟨b, 0, none⟩ = some (.slice ga n cap) := ((hgrow.cell_far ⟨b, 0, none⟩ (by simp; omega) (by intro e; first | exact hfar e | exact hfar e.symm)).trans ((Below.refl w.heap.size w).alloc (by simp) _ |>.cell hlt |>.trans hc)); have hF1 : w1.frozen? ⟨b, 0, none⟩ = false := ((hgrow.frozen_far ⟨b, 0, none⟩ (by simp; omega) (by intro e; first | exact hfar e | exact hfar e.symm)).trans ((Below.refl w.heap.size w).alloc (by simp) _ |>.frozen hlt |>.trans hfz)); have HOW := hide hown1; have HGR := hide hgrow; have HAT := hide hat; clear hown1 hgrow hat hl1)
  have hB : Below w.heap.size w (w.alloc (.cells #[.int .i64 x] 3)) := (Below.refl w.heap.size w).alloc (by simp) _
  have hh := (unhide HH).mod (Mod.of_below (F := fun _ => False) hB) (fun _ _ e => e)
  have R := hh.close (H := w.heap.size + 1) (unhide HGR) (unhide HOW) (unhide HAT) (by simp) (unhide HFF)
  obtain ⟨F', h1, h2, h3⟩ := R
  have R2 : UpdSt F w (w1.setCell ⟨b, 0, none⟩ (.slice (some ⟨g', 0, none⟩) (n + 1) cap')) base b 180 3 1 (n + 1) (xs ++ [.int .i64 x]) := ⟨F', h1, (Mod.of_below hB).trans h2, fun k hk => (h3 k hk).imp id (fun h => Nat.le_trans hB.size h)⟩
  go_end0
  exact ⟨rfl, R2⟩

theorem empty_int {w : World} {base b n : Nat} {xs : List Value} {F : Nat → Prop} (h : StS w base b 180 3 1 n xs F) :
    Calls Try.prog 145 #[.pointer (some ⟨b, 0, none⟩)] w fun e w' => e = .returned (.bool (decide (n = 0))) ∧ w = w' := by
  obtain ⟨v, h, hF⟩ := h
  obtain ⟨ga, cap, rfl, _⟩ := h.cut n (Nat.le_refl _)
  have hc := h.cell
  clear h hF
  go_enter Try.func145, Try.ntmps145
  go_wp2
  go_ret
  have e : (((n : Nat) : Int) == 0) = decide (n = 0) := by rw [Bool.eq_iff_iff]; simp
  exact ⟨by simp [e], rfl⟩

set_option maxHeartbeats 1000000 in
theorem pop_int {w : World} {base b n : Nat} {xs : List Value} {F : Nat → Prop} {x : Int} (h : StS w base b 180 3 1 (n + 1) (xs ++ [.int .i64 x]) F) (hn : n ≤ 100000) :
    Calls Try.prog 146 #[.pointer (some ⟨b, 0, none⟩)] w fun e w' => e = .returned (.int .i64 x) ∧ UpdSt F w w' base b 180 3 1 n xs := by
  obtain ⟨v, h, hF⟩ := h
  obtain ⟨g, cap, rfl, hcap, hg, hj⟩ := h.at (by omega)
  have hlx : xs.length = n * 1 := by have := h.row.1; simp at this; omega
  have c0 : w.cell? ⟨g, n, none⟩ = some (.int .i64 x) := by rw [hj _ (by omega), List.getElem?_append_right (by omega), hlx]; simp
  have hc := h.cell
  have hfz := h.free
  have hlt := h.lt
  have HX := hide hlx
  have HH := hide h
  have HFF := hide hF
  clear h hF hj hlx
  go_enter Try.func146, Try.ntmps146
  go_wp2
  refine bodyPost_ret (v := .int .i64 x) (by simp [results, Try.results146, go_sem]) rfl ⟨rfl, ?_⟩
  have R := (unhide HH).short (unhide HFF) n (by omega) (Below.refl _ w)
  rw [List.take_left' (unhide HX)] at R
  exact R
end Go.Proofs.Ytlbkoafeedlfaaa

namespace Go.Proofs.Ytlbkoafeedlfaaa
open Go.RowKit

def pushI (x : Int) : List Value := if x = -1 then [] else [.int .i64 x]
theorem put_int {w : World} {base b n : Nat} {xs : List Value} {F : Nat → Prop} (h : StS w base b 180 3 1 n xs F) (x : Int) (hn : n ≤ 100000) :
    Calls Try.prog 142 #[.int .i64 x, .pointer (some ⟨b, 0, none⟩)] w fun e w' => e = .returned (.tuple #[]) ∧ UpdSt F w w' base b 180 3 1 (n + (pushI x).length) (xs ++ pushI x) := by
  by_cases hx : x = -1
  · have hp : pushI x = [] := by unfold pushI; rw [if_pos hx]
    rw [hp]
    have HH := hide h
    have bx : (x != -1) = false := by simp [hx]
    clear h hp hx hn
    go_enter Try.func142, Try.ntmps142
    go_wp2
    go_end0
    exact ⟨rfl, F, by simpa using unhide HH, Mod.of_below (Below.refl _ w), fun k hk => .inl hk⟩
  · have hp : pushI x = [.int .i64 x] := by unfold pushI; rw [if_neg hx]
    rw [hp]
    have HQ := hide (push_int h x hn)
    have bx : (x != -1) = true := by rw [bne_iff_ne]; exact hx
    clear h hp hx hn
    go_enter Try.func142, Try.ntmps142
    go_wp2_with (go_at_call 143; refine (unhide HQ).mono ?_; rintro v w1 ⟨rfl, hu⟩; have HU := hide hu; clear hu)
    go_end0
    exact ⟨rfl, unhide HU⟩

set_option maxHeartbeats 1000000 in
theorem inside_any {w : World} {N : Nat} {b cap : Nat} {l : List Int} (hl : l.length ≤ 100) (hc : ∀ (i : Nat) v, l[i]? = some v → w.cell? ⟨b, i, none⟩ = some (.int .i64 v)) (hv : ∀ v ∈ l, v = -1 ∨ 0 ≤ v ∧ v < N) :
    Calls Try.prog 123 #[.int .i64 N, .slice (some ⟨b, 0, none⟩) l.length cap] w fun e w' => e = .returned (.bool true) ∧ Below w.heap.size w w' := by
  have HC := hide hc
  have HV := hide hv
  have hlz : (l.length : Int) ≤ 100 := by omega
  clear hc hv hl
  go_enter Try.func123, Try.ntmps123
  set_option maxRecDepth 10000 in
  go_wp2
  go_loopg [6, 9] l.length (fun k _ s9 wx => ∃ (j : Nat), s9 = .int .i64 j ∧ j + k = l.length ∧ ∃ n, wx = w.drewN n)
  case atStart => exact ⟨0, rfl, by omega, 0, rfl⟩
  case round =>
    obtain ⟨j, rfl, hjk, nn, rfl⟩ := hrel
    by_cases hj : j < l.length
    · have hjz : (j : Int) < (l.length : Int) := by omega
      obtain ⟨v, hv⟩ : ∃ v, l[j]? = some v := ⟨_, List.getElem?_eq_getElem hj⟩
      have c0 := (unhide HC) j v hv
      have hin := (unhide HV) v (List.mem_of_getElem? hv)
      clear hv
      by_cases h1 : v = -1
      · subst h1
        clear hin
        set_option maxRecDepth 10000 in
        go_wp2
        go_roundg (gk - 1)
        case measure => omega
        case rel => exact ⟨j + 1, by go_num, by omega, _, rfl⟩
      · have b1 : (v != -1) = true := by rw [bne_iff_ne]; exact h1
        obtain ⟨h2, h3⟩ := hin.resolve_left h1
        have b2 : decide (v < 0) = false := by simpa using h2
        have b3 : decide (v ≥ (N : Int)) = false := by simpa using h3
        have b4 : decide ((N : Int) ≤ v) = false := by simpa using h3
        have h2' : ¬ v < 0 := by omega
        have h3' : ¬ (N : Int) ≤ v := by omega
        clear h1 hin
        set_option maxRecDepth 10000 in
        go_wp2
        go_roundg (gk - 1)
        case measure => omega
        case rel => exact ⟨j + 1, by go_num, by omega, _, rfl⟩
    · have hjz : ¬ (j : Int) < (l.length : Int) := by omega
      set_option maxRecDepth 10000 in
      go_wp2
      go_ret
      exact ⟨rfl, below_drewN' (Below.refl _ w) _⟩
end Go.Proofs.Ytlbkoafeedlfaaa

namespace Go.Proofs.Ytlbkoafeedlfaaa

section
variable {ns : List NodeM} {os : List OneM}
theorem Sim.up_below (h : Sim ns os) {y x : Nat} (hu : upO os y = some (x : Int)) : ∃ o, os[x]? = some o ∧ y ∈ belowO o := by
  unfold upO at hu
  cases hy : os[y]? with
  | none => rw [hy] at hu; cases hu
  | some q =>
    rw [hy] at hu
    simp only [Option.map_some, Option.some.injEq] at hu
    split at hu
    · rcases h.host y q hy with e | ⟨_, k, m, hk, rfl, hm, hi⟩
      · omega
      · obtain rfl : k = x := by omega
        refine ⟨m, hm, ?_⟩
        unfold belowO innerL
        rw [if_neg (by omega), hi]
        simp
    · rcases h.up y q hy with e | ⟨p, m, hp, hm, hin⟩
      · contradiction
      · obtain rfl : p = x := by omega
        exact ⟨m, hm, by unfold belowO; simp [hin]⟩
theorem TR_self (h : Sim ns os) {y : Nat} (hy : y < os.length) : y ∈ TR os y := by
  rw [TR_some h (List.getElem?_eq_getElem hy)]; simp
theorem TR_up (h : Sim ns os) {z x y : Nat} (hu : upO os z = some (x : Int)) (hy : y ∈ TR os z) : y ∈ TR os x := by
  obtain ⟨o, ho, hz⟩ := h.up_below hu
  rw [TR_some h ho]
  exact List.mem_cons_of_mem _ (List.mem_flatMap.2 ⟨z, hz, hy⟩)
def topB (os : List OneM) (i : Nat) : Bool := upO os i == some (-1)
theorem path_top (h : Sim ns os) {y : Nat} : ∀ {l : List Nat} {z : Nat}, PathOf (upO os) (z : Int) l → y ∈ TR os z → ∃ t, topB os t = true ∧ y ∈ TR os t
  | [], z, hp, _ => by
    have : ((z : Nat) : Int) = -1 := hp
    omega
  | i :: r, z, hp, hy => by
    obtain ⟨e, m, hm, hr⟩ := hp
    obtain rfl : z = i := by omega
    by_cases e1 : m = -1
    · subst e1
      exact ⟨z, by unfold topB; rw [hm]; rfl, hy⟩
    · cases r with
      | nil => exact absurd hr e1
      | cons i2 r2 =>
        have e2 : m = (i2 : Int) := hr.1
        subst e2
        exact path_top h hr (TR_up h hm hy)
theorem top_last {y t : Nat} : ∀ {l : List Nat} {k : Int}, PathOf (upO os) k l → t ∈ l → topB os t = true → l.getLast? = some t
  | [], _, _, ht, _ => by cases ht
  | i :: r, k, hp, ht, hb => by
    obtain ⟨_, m, hm, hr⟩ := hp
    by_cases e : t = i
    · subst e
      unfold topB at hb
      rw [hm] at hb
      have e1 : m = -1 := by simpa using hb
      subst e1
      cases r with
      | nil => rfl
      | cons i2 r2 => have := hr.1; omega
    · have ht' : t ∈ r := by simpa [e] using ht
      have := top_last (y := y) hr ht' hb
      cases r with
      | nil => cases ht'
      | cons i2 r2 => rw [List.getLast?_cons_cons]; exact this
def topsL (os : List OneM) : List Nat := (List.range os.length).filter (topB os)
theorem tops_nodup (h : Sim ns os) : ((topsL os).flatMap (TR os)).Nodup := by
  refine nodup_flat (List.nodup_range.filter _) (fun x _ => tree_nodup h _ x) (fun x hx x' hx' y hy hy' => ?_)
  obtain ⟨py, hpy, hin⟩ := tree_path h _ _ _ hy
  obtain ⟨py', hpy', hin'⟩ := tree_path h _ _ _ hy'
  have e0 := path_one hpy' hpy
  subst e0
  have b1 := top_last (y := y) hpy hin (List.mem_filter.1 hx).2
  have b2 := top_last (y := y) hpy hin' (List.mem_filter.1 hx').2
  rw [b1] at b2
  simpa using b2
theorem tops_perm (h : Sim ns os) : ((topsL os).flatMap (TR os)).Perm (List.range os.length) := by
  refine (List.perm_ext_iff_of_nodup (tops_nodup h) List.nodup_range).2 fun y => ?_
  constructor
  · intro hy
    obtain ⟨t, _, hyt⟩ := List.mem_flatMap.1 hy
    exact List.mem_range.2 (tree_in h _ _ _ hyt)
  · intro hy
    have hy' := List.mem_range.1 hy
    obtain ⟨l, hl⟩ := h.ends y hy'
    obtain ⟨t, ht, hyt⟩ := path_top h hl (TR_self h hy')
    refine List.mem_flatMap.2 ⟨t, List.mem_filter.2 ⟨?_, ht⟩, hyt⟩
    unfold topB upO at ht
    cases ho : os[t]? with
    | none => rw [ho] at ht; cases ht
    | some o => exact List.mem_range.2 (List.getElem?_eq_some_iff.1 ho).1
end
end Go.Proofs.Ytlbkoafeedlfaaa

namespace Go.Proofs.Ytlbkoafeedlfaaa
open Go.RowKit

/-- A row of n marks in block g. -/
structure BS (w : World) (g n : Nat) (f : Nat → Bool) : Prop where
  lt : g < w.heap.size
  cell : ∀ i, i < n → w.cell? ⟨g, i, none⟩ = some (.bool (f i))
  free : ∀ i, i < n → w.frozen? ⟨g, i, none⟩ = false
section
variable {w w' : World} {g n : Nat} {f f' : Nat → Bool}
theorem BS.below (h : BS w g n f) {B : Nat} (hb : Below B w w') (hB : g < B) : BS w' g n f :=
  ⟨Nat.lt_of_lt_of_le h.lt hb.size, fun i hi => (hb.cell (p := ⟨g, i, none⟩) hB).trans (h.cell i hi), fun i hi => (hb.frozen (p := ⟨g, i, none⟩) hB).trans (h.free i hi)⟩
theorem BS.set (h : BS w g n f) (i : Nat) (hi : i < n) (hf : ∀ k, f' k = (k == i || f k)) : BS (w.setCell ⟨g, i, none⟩ (.bool true)) g n f' := by
  refine ⟨by simpa using h.lt, fun k hk => ?_, fun k hk => by rw [World.frozen?_setCell]; exact h.free k hk⟩
  rw [hf]
  by_cases e : k = i
  · subst e
    rw [World.cell?_setCell_same _ _ _ (h.cell k hk)]; simp
  · rw [World.cell?_setCell_other _ _ _ _ (by intro e2; cases e2; exact e rfl), h.cell k hk]; simp [e]
theorem BS.same (h : BS w g n f) (hf : ∀ k, f' k = f k) : BS w g n f' := ⟨h.lt, fun i hi => by rw [hf]; exact h.cell i hi, h.free⟩
end
theorem Try.info4 : (Try.prog.info? 4).map (fun i => (i.zero, i.size, i.bytes)) = some (some (.bool false), 1, 1) := by kernel_rfl
theorem bs_new {w1 : World} {base g n : Nat} (h : w1.ownsRow base 4 1 (.slice (some ⟨g, 0, none⟩) n n) n (madeCells (Value.bool false).cells (n * 1)).toList) : BS w1 g n (fun _ => false) := by
  have e : ∀ i, i < n → (madeCells (Value.bool false).cells (n * 1)).toList[i]? = some (.bool false) := by
    intro i hi
    simp [madeCells, Value.cells, hi, Nat.mod_one]
  rcases h.2 with ⟨hn, _⟩ | ⟨g', cap, cur, e1, hbb, hgg, hc, _⟩
  · cases hn
  · have e2 : g' = g := by simp at e1; exact e1.1.symm
    subst e2
    refine ⟨lt_of_block hgg, fun i hi => (h.cellAt i (by omega)).trans (e i hi), fun i hi => ?_⟩
    simp [World.frozen?, hgg]
def heldN (ns : List NodeM) (i : Nat) : Bool := ns.any fun n => n.inner == (i : Int)
def topN (ns : List NodeM) (i : Nat) : Bool := (match ns[i]? with | some n => n.parent == -1 | none => false) && !heldN ns i
def topsN (ns : List NodeM) : List Nat := (List.range ns.length).filter (topN ns)
def cellsI (l : List Nat) : List Value := l.map fun (i : Nat) => Value.int .i64 i
theorem Nods.below {w w1 : World} {g : Nat} {ns : List NodeM} (h : Nods w g ns) (hb : Below w.heap.size w w1) : Nods w1 g ns :=
  ⟨Nat.lt_of_lt_of_le h.1 hb.size, fun i n hi => by
    obtain ⟨c0, c1, c2, c3, c4, c5, c6, c7, c8, c9, c10, c11⟩ := h.2 i n hi
    have e : ∀ j, w1.cell? ⟨g, j, none⟩ = w.cell? ⟨g, j, none⟩ := fun j => hb.cell (p := ⟨g, j, none⟩) h.1
    exact ⟨(e _).trans c0, (e _).trans c1, (e _).trans c2, (e _).trans c3, (e _).trans c4, (e _).trans c5, (e _).trans c6, (e _).trans c7, (e _).trans c8, (e _).trans c9, (e _).trans c10, (e _).trans c11⟩⟩

theorem held_step (ns : List NodeM) (j : Nat) (n : NodeM) (hn : ns[j]? = some n) (k : Nat) : heldN (ns.take (j + 1)) k = (heldN (ns.take j) k || n.inner == (k : Int)) := by
  unfold heldN
  rw [List.take_add_one, hn]
  simp
theorem tops_step (ns : List NodeM) (j : Nat) : (List.range (j + 1)).filter (topN ns) = (List.range j).filter (topN ns) ++ (if topN ns j = true then [j] else []) := by
  rw [List.range_succ, List.filter_append]
  congr 1
  by_cases h : topN ns j = true <;> simp [h]

set_option maxHeartbeats 4000000 in
theorem tops_any {w : World} {g cap : Nat} {ns : List NodeM} (h : Nods w g ns) (hn : ns.length ≤ 32768) (hin : ∀ (i : Nat) n, ns[i]? = some n → n.inner = -1 ∨ ∃ c : Nat, n.inner = c ∧ c < ns.length) :
    Calls Try.prog 144 #[.slice (some ⟨g, 0, none⟩) ns.length cap] w fun e w' => ∃ a m c, e = .returned (.slice a m c) ∧ m = (topsN ns).length ∧ w'.ownsRow w.heap.size 3 1 (.slice a m c) m (cellsI (topsN ns)) ∧ Below w.heap.size w w' := by
  obtain ⟨i4, hi4, hy0, hy1, hy2⟩ := info_parts Try.info4
  obtain ⟨i0, hi0, hz0, hz1, hz2⟩ := info_parts Try.info3i
  have HM := hide hn
  have HNB := hide h
  have HIN := hide hin
  have hmz : (ns.length : Int) ≤ 32768 := by omega
  clear h hn hin
  go_enter Try.func144, Try.ntmps144
  set_option maxRecDepth 10000 in
  go_wp2_with (at_make; go_must (refine wpList_make_full _ rfl _ _ 178 rfl w.heap.size 4 i4 _ 1 Try.underlying178 hi4 hy0 hy1 _ _ _ _ ns.length rfl rfl rfl rfl (by rw [hy2]; have := unhide HM; omega) (by unfold maxLen; have := unhide HM; omega) (Nat.le_refl _) ?_); intro w1 hown1 hgrow1; have HBS := hide (bs_new hown1); have HG1 : Hid (Below w.heap.size w w1) := hide ((Below.refl _ w).grown hgrow1 (Nat.le_refl _) (by simp)); clear hown1 hgrow1)
  go_loopg [5, 14] ns.length (fun k _ s14 wx => ∃ (j : Nat), s14 = .int .i64 j ∧ j + k = ns.length ∧ BS wx w.heap.size ns.length (heldN (ns.take j)) ∧ Below w.heap.size w wx)
  case atStart => exact ⟨0, rfl, by omega, (unhide HBS).same (fun k => by simp [heldN]), unhide HG1⟩
  case round =>
    clear HBS HG1
    obtain ⟨j, rfl, hjk, hbs, hbw⟩ := hrel
    have HB := hide hbs
    have HBW := hide hbw
    by_cases hj : j < ns.length
    · have hjz : (j : Int) < (ns.length : Int) := by omega
      obtain ⟨n, hn⟩ : ∃ n, ns[j]? = some n := ⟨_, List.getElem?_eq_getElem hj⟩
      have hgl : g < wr.heap.size := ((unhide HNB).below hbw).1
      obtain ⟨c0, c1, c2, c3, c4, c5, c6, c7, c8, c9, c10, c11⟩ := ((unhide HNB).below hbw).2 j n hn
      have HST := hide (held_step ns j n hn)
      rcases (unhide HIN) j n hn with e | ⟨c, e, hc⟩
      · rw [e] at c11
        have HE := hide e
        clear hbs hbw hn e
        set_option maxRecDepth 10000 in
        go_wp2
        go_roundg (gk - 1)
        case measure => omega
        case rel => exact ⟨j + 1, by go_num, by omega, ((unhide HB).below ((Below.refl wr.heap.size wr).alloc (Nat.le_refl _) _) (unhide HB).lt).same (fun k => by rw [unhide HST k, unhide HE]; simp), (unhide HBW).alloc (unhide HBW).size _⟩
      · rw [e] at c11
        have HE := hide e
        have d0 := hbs.cell c hc
        have d1 := hbs.free c hc
        have hlt : w.heap.size < wr.heap.size := hbs.lt
        have hcz : (c : Int) < (ns.length : Int) := by omega
        have qc : ((c : Int) != -1) = true := by rw [bne_iff_ne]; omega
        clear hbs hbw hn e
        set_option maxRecDepth 10000 in
        go_wp2
        go_roundg (gk - 1)
        case measure => omega
        case rel => exact ⟨j + 1, by go_num, by omega, ((unhide HB).set (f' := heldN (ns.take (j + 1))) c hc (fun k => by rw [unhide HST k, unhide HE, Bool.or_comm]; congr 1; rw [Bool.eq_iff_iff]; simp; omega)).below ((Below.refl _ _).alloc (Nat.le_refl _) _) (by simpa using hlt), ((unhide HBW).setCell (Nat.le_refl _) _).alloc (by simpa using (unhide HBW).size) _⟩
    · have hjz : ¬ (j : Int) < (ns.length : Int) := by omega
      obtain rfl : j = ns.length := by omega
      clear hbs hbw
      set_option maxRecDepth 10000 in
      go_wp2
      have HB2 : Hid (BS wr w.heap.size ns.length (heldN ns)) := hide (by have := unhide HB; rw [List.take_length] at this; exact this)
      clear HB
      go_loopg [6, 7, 8, 28] ns.length (fun k s6 _ _ s28 wx => ∃ (j m c : Nat) (a : Option Addr), s28 = .int .i64 j ∧ j + k = ns.length ∧ s6 = .slice a m c ∧ m = ((List.range j).filter (topN ns)).length ∧ wx.ownsRow w.heap.size 3 1 (.slice a m c) m (cellsI ((List.range j).filter (topN ns))) ∧ (Value.slice a m c).ownBlock ≠ some w.heap.size ∧ BS wx w.heap.size ns.length (heldN ns) ∧ Below w.heap.size w wx)
      case atStart => exact ⟨0, 0, 0, none, rfl, by omega, rfl, rfl, ⟨by simp [cellsI], .inl ⟨rfl, rfl⟩⟩, by simp [Value.ownBlock], unhide HB2, unhide HBW⟩
      case round =>
        clear HB2 HBW
        obtain ⟨j, m, c, a, rfl, hjk2, rfl, hm, hown, hfar, hbs, hbw⟩ := hrel
        have HB := hide hbs
        have HBW := hide hbw
        have HO := hide hown
        have HFA := hide hfar
        have HMM := hide hm
        have hsz : w.heap.size < wr.heap.size := hbs.lt
        by_cases hj : j < ns.length
        · have hjz : (j : Int) < (ns.length : Int) := by omega
          obtain ⟨n, hn⟩ : ∃ n, ns[j]? = some n := ⟨_, List.getElem?_eq_getElem hj⟩
          have hgl : g < wr.heap.size := ((unhide HNB).below hbw).1
          obtain ⟨c0, c1, c2, c3, c4, c5, c6, c7, c8, c9, c10, c11⟩ := ((unhide HNB).below hbw).2 j n hn
          have d0 := hbs.cell j hj
          have HST := hide (tops_step ns j)
          have HK : Hid (∀ ob, wr.heap.size ≤ wr.heap.size → (wr.alloc ob).ownsRow w.heap.size 3 1 (.slice a m c) m (cellsI ((List.range j).filter (topN ns))) ∧ BS (wr.alloc ob) w.heap.size ns.length (heldN ns) ∧ Below w.heap.size w (wr.alloc ob)) := hide (fun ob _ => ⟨hown.alloc _, hbs.below ((Below.refl wr.heap.size wr).alloc (Nat.le_refl _) _) hbs.lt, hbw.alloc hbw.size _⟩)
          by_cases hp : n.parent = -1
          · rw [hp] at c6
            by_cases hd : heldN ns j = true
            · have ht : topN ns j = false := by unfold topN; rw [hd]; simp
              rw [hd] at d0
              have HT := hide ht
              clear hbs hbw hown hfar hm hn hp hd ht
              set_option maxRecDepth 10000 in
              go_wp2
              go_roundg (gk - 1)
              case measure => omega
              case rel =>
                have e : (List.range (j + 1)).filter (topN ns) = (List.range j).filter (topN ns) := by rw [unhide HST, unhide HT]; simp
                have K := (unhide HK)
                exact ⟨j + 1, m, c, a, by go_num, by omega, rfl, by rw [e]; exact unhide HMM, by rw [e]; exact (K _ (Nat.le_refl _)).1, unhide HFA, (K _ (Nat.le_refl _)).2.1, (K _ (Nat.le_refl _)).2.2⟩
            · have hd' : heldN ns j = false := by simpa using hd
              have ht : topN ns j = true := by unfold topN; rw [hn, hd']; simp [hp]
              rw [hd'] at d0
              have HT := hide ht
              have hmle : m ≤ ns.length := by
                rw [hm]
                have := List.length_filter_le (topN ns) (List.range j)
                rw [List.length_range] at this
                omega
              have HML := hide hmle
              clear hbs hbw hown hfar hm hn hp hd hd' ht hmle
              set_option maxRecDepth 10000 in
              go_wp2_with (at_builtin; go_must (refine wpList_append_lies _ (by rfl) _ _ 41 (by rfl) w.heap.size 3 i0 _ 1 8 Try.underlying41 hi0 hz0 hz1 hz2 rfl (by omega) (.slice a m c) m (cellsI ((List.range j).filter (topN ns))) (by rfl) (by exact ((unhide HO).alloc _).alloc _) ⟨wr.heap.size + 1, 0, none⟩ 1 1 [.int .i64 j] (by rfl) (by rfl) (by have := one_newsS (wr.alloc (.cells #[.int .i64 n.kind, .int .i64 n.space, .string n.name, .slice none 0 0, .string n.data, .string n.system, .int .i64 (-1), .int .i64 n.first, .int .i64 n.last, .int .i64 n.prev, .int .i64 n.next, .int .i64 n.inner] 37)) 3 (.int .i64 j); rw [World.size_alloc] at this; exact this) (by simp [Value.oneCell']) (by omega) (by unfold maxLen; have := unhide HM; have := unhide HML; omega) (by have := unhide HM; have := unhide HML; omega) (by have := (unhide HBW).size; simp; omega) (wr.heap.size + 2) (by simp) ?_); intro g1 cc1 w5 hown1 hgrow1 hat1 hlt1; have HOW := hide hown1; have HGR := hide hgrow1; have HAT := hide hat1; clear hown1 hgrow1 hat1 hlt1)
              go_roundg (gk - 1)
              case measure => omega
              case rel =>
                have e : (List.range (j + 1)).filter (topN ns) = (List.range j).filter (topN ns) ++ [j] := by rw [unhide HST, unhide HT]; simp
                have hg1 : g1 ≠ w.heap.size := by
                  rcases unhide HAT with e2 | e2
                  · intro e3; subst e3; exact (unhide HFA) e2
                  · omega
                refine ⟨j + 1, m + 1, cc1, some ⟨g1, 0, none⟩, by go_num, by omega, rfl, by rw [e, List.length_append, ← unhide HMM]; rfl, by rw [e]; simpa [cellsI] using unhide HOW, by simpa [Value.ownBlock] using hg1, ?_, ?_⟩
                · refine ⟨Nat.lt_of_lt_of_le (by simp; omega) (unhide HGR).size, fun i hi => ?_, fun i hi => ?_⟩
                  · rw [(unhide HGR).cell_far ⟨w.heap.size, i, none⟩ (by simp; omega) (by intro e; first | exact (unhide HFA) e | exact (unhide HFA) e.symm)]
                    exact ((((Below.refl wr.heap.size wr).alloc (Nat.le_refl _) _).alloc (by simp) _).cell (p := ⟨w.heap.size, i, none⟩) hsz).trans ((unhide HB).cell i hi)
                  · rw [(unhide HGR).frozen_far ⟨w.heap.size, i, none⟩ (by simp; omega) (by intro e; first | exact (unhide HFA) e | exact (unhide HFA) e.symm)]
                    exact ((((Below.refl wr.heap.size wr).alloc (Nat.le_refl _) _).alloc (by simp) _).frozen (p := ⟨w.heap.size, i, none⟩) hsz).trans ((unhide HB).free i hi)
                · exact (((unhide HBW).alloc (unhide HBW).size _).alloc (by have := (unhide HBW).size; simp; omega) _).grown (unhide HGR) (by have := (unhide HBW).size; simp; omega) (fun k hk => (ownsRow_base (unhide HO) hk).1)
          · have ht : topN ns j = false := by unfold topN; rw [hn]; simp [hp]
            have bp : (n.parent == -1) = false := by rw [beq_eq_false_iff_ne]; exact hp
            have HT := hide ht
            clear hbs hbw hown hfar hm hn hp ht
            set_option maxRecDepth 10000 in
            go_wp2
            go_roundg (gk - 1)
            case measure => omega
            case rel =>
              have e : (List.range (j + 1)).filter (topN ns) = (List.range j).filter (topN ns) := by rw [unhide HST, unhide HT]; simp
              have K := (unhide HK)
              exact ⟨j + 1, m, c, a, by go_num, by omega, rfl, by rw [e]; exact unhide HMM, by rw [e]; exact (K _ (Nat.le_refl _)).1, unhide HFA, (K _ (Nat.le_refl _)).2.1, (K _ (Nat.le_refl _)).2.2⟩
        · have hjz : ¬ (j : Int) < (ns.length : Int) := by omega
          obtain rfl : j = ns.length := by omega
          clear hbs hbw hown hfar hm
          set_option maxRecDepth 10000 in
          go_wp2
          go_ret
          exact ⟨a, m, c, rfl, unhide HMM, unhide HO, unhide HBW⟩
end Go.Proofs.Ytlbkoafeedlfaaa

namespace Go.Proofs.Ytlbkoafeedlfaaa
open Go.RowKit

def ne (l : List Nat) : List (List Nat) := if l = [] then [] else [l]
def cellsQ (E : List (List Nat)) : List Value := E.map fun l => Value.int .i64 (headI l)
theorem path_hd {f : Nat → Option Int} {k : Int} {l : List Nat} (h : PathOf f k l) : k = headI l := by
  cases l with
  | nil => exact h
  | cons i r => exact h.1
theorem ne_cells {f : Nat → Option Int} {k : Int} {l : List Nat} (h : PathOf f k l) : pushI k = cellsQ (ne l) ∧ (pushI k).length = (ne l).length := by
  have e := path_hd h
  cases l with
  | nil => rw [e]; simp [pushI, headI, ne, cellsQ]
  | cons i r => rw [e]; simp [pushI, headI, ne, cellsQ]

def RS (w0 wx : World) (b : Nat) (ks : List Nat) (E : List (List Nat)) : Prop :=
  (∃ F, StS wx w0.heap.size b 180 3 1 E.length (cellsQ E) F ∧ ∀ k ∈ ks, ¬ F k ∧ k < wx.heap.size) ∧ Below w0.heap.size w0 wx
def Kept (ks : List Nat) (w w' : World) : Prop := w.heap.size ≤ w'.heap.size ∧ ∀ k ∈ ks, w'.heap[k]? = w.heap[k]?
section
variable {w0 wx w' : World} {b : Nat} {ks : List Nat} {E E' : List (List Nat)} {F : Nat → Prop}
theorem RS.upd (h : StS wx w0.heap.size b 180 3 1 E.length (cellsQ E) F) (hk : ∀ k ∈ ks, ¬ F k ∧ k < wx.heap.size) (hb : Below w0.heap.size w0 wx) (hu : UpdSt F wx w' w0.heap.size b 180 3 1 E'.length (cellsQ E')) : RS w0 w' b ks E' ∧ Kept ks wx w' := by
  obtain ⟨F', h1, h2, h3⟩ := hu
  refine ⟨⟨⟨F', h1, fun k hin => ⟨fun hf => ?_, Nat.lt_of_lt_of_le (hk k hin).2 h2.size⟩⟩, hb.trans (h2.below hb.size (fun k hf => (h.lt hf).1))⟩, h2.size, fun k hin => h2.block k (hk k hin).2 (hk k hin).1⟩
  rcases h3 k hf with e | e
  · exact (hk k hin).1 e
  · have := (hk k hin).2; omega
theorem RS.put (h : RS w0 wx b ks E) (hn : E.length ≤ 100000) {f : Nat → Option Int} {k : Int} {l : List Nat} (hp : PathOf f k l) :
    Calls Try.prog 142 #[.int .i64 k, .pointer (some ⟨b, 0, none⟩)] wx fun e w' => e = .returned (.tuple #[]) ∧ RS w0 w' b ks (E ++ ne l) ∧ Kept ks wx w' := by
  obtain ⟨⟨F, h, hk⟩, hb⟩ := h
  obtain ⟨e1, e2⟩ := ne_cells hp
  refine (put_int h k hn).mono fun e w' ⟨he, hu⟩ => ⟨he, RS.upd h hk hb ?_⟩
  have e3 : cellsQ (E ++ ne l) = cellsQ E ++ pushI k := by rw [e1]; simp [cellsQ]
  rw [List.length_append, ← e2, e3]; exact hu
theorem RS.pop {i : Nat} {r : List Nat} (h : RS w0 wx b ks (E ++ [i :: r])) (hn : E.length ≤ 100000) :
    Calls Try.prog 146 #[.pointer (some ⟨b, 0, none⟩)] wx fun e w' => e = .returned (.int .i64 i) ∧ RS w0 w' b ks E ∧ Kept ks wx w' := by
  obtain ⟨⟨F, h, hk⟩, hb⟩ := h
  have h' : StS wx w0.heap.size b 180 3 1 (E.length + 1) (cellsQ E ++ [.int .i64 i]) F := by
    have := h
    simp [cellsQ, headI] at this ⊢
    exact this
  refine (pop_int h' hn).mono fun e w' ⟨he, hu⟩ => ⟨he, RS.upd h hk hb hu⟩
theorem RS.empty (h : RS w0 wx b ks E) : Calls Try.prog 145 #[.pointer (some ⟨b, 0, none⟩)] wx fun e w' => e = .returned (.bool (decide (E.length = 0))) ∧ wx = w' := by
  obtain ⟨⟨F, h, hk⟩, hb⟩ := h
  exact empty_int h
theorem RS.mark (h : RS w0 wx b ks E) {k i : Nat} (hk : k ∈ ks) (hl : w0.heap.size ≤ k) (v : Value) : RS w0 (wx.setCell ⟨k, i, none⟩ v) b ks E := by
  obtain ⟨⟨F, h, hks⟩, hb⟩ := h
  refine ⟨⟨F, h.mod (Mod.setCell (F := fun q => q = k) wx ⟨k, i, none⟩ v rfl) (fun q hq e => ?_), fun q hq => ⟨(hks q hq).1, by simpa using (hks q hq).2⟩⟩, hb.setCell hl _⟩
  subst e
  exact (hks _ hk).1 hq
theorem BS.kept {g n : Nat} {f : Nat → Bool} (h : BS wx g n f) (hb : w'.heap[g]? = wx.heap[g]?) (hs : wx.heap.size ≤ w'.heap.size) : BS w' g n f :=
  ⟨Nat.lt_of_lt_of_le h.lt hs, fun i hi => (World.cell?_of_block (w := wx) (a := ⟨g, i, none⟩) hb).trans (h.cell i hi), fun i hi => (World.frozen?_of_block (w := wx) (a := ⟨g, i, none⟩) hb).trans (h.free i hi)⟩
end

section
variable {ns : List NodeM} {os : List OneM}
def GT (os : List OneM) (l : List Nat) : List Nat := l.flatMap (TR os)
def restE (os : List OneM) (E : List (List Nat)) : List Nat := E.flatMap (GT os)
theorem restE_app (E E' : List (List Nat)) : restE os (E ++ E') = restE os E ++ restE os E' := by simp [restE]
theorem restE_ne (l : List Nat) : restE os (ne l) = GT os l := by
  unfold restE ne
  split
  · rename_i h; subst h; rfl
  · simp
def OkQ (ns : List NodeM) (E : List (List Nat)) : Prop := ∀ l ∈ E, l ≠ [] ∧ PathOf (nextF ns) (headI l) l
theorem OkQ.add {E : List (List Nat)} (h : OkQ ns E) {k : Int} {l : List Nat} (hp : PathOf (nextF ns) k l) : OkQ ns (E ++ ne l) := by
  intro q hq
  rcases List.mem_append.1 hq with e | e
  · exact h q e
  · unfold ne at e
    split at e
    · cases e
    · rename_i hl
      rw [List.mem_singleton] at e; subst e
      exact ⟨hl, by rw [← path_hd hp]; exact hp⟩
theorem restE_len (h : Sim ns os) : ∀ {E : List (List Nat)}, OkQ ns E → E.length ≤ (restE os E).length
  | [], _ => by simp
  | l :: E, hE => by
    have h1 := restE_len h (E := E) (fun q hq => hE q (by simp [hq]))
    obtain ⟨hl, hp⟩ := hE l (by simp)
    cases l with
    | nil => exact absurd rfl hl
    | cons i r =>
      obtain ⟨_, m, hm, _⟩ := hp
      unfold nextF at hm
      cases hn : ns[i]? with
      | none => rw [hn] at hm; cases hm
      | some n =>
        obtain ⟨o, ho, _⟩ := h.getO hn
        have e : restE os ((i :: r) :: E) = TR os i ++ (GT os r ++ restE os E) := by simp [restE, GT]
        rw [e, TR_some h ho]
        simp
        omega
theorem rest_step (h : Sim ns os) {i : Nat} {r M : List Nat} {E : List (List Nat)} {o : OneM} (ho : os[i]? = some o) (hp : (M ++ restE os (E ++ [i :: r])).Perm (List.range os.length)) :
    ((i :: M) ++ restE os (((E ++ ne r) ++ ne o.kids) ++ ne (innerL o))).Perm (List.range os.length) := by
  refine List.Perm.trans ?_ hp
  have e1 : restE os [i :: r] = (i :: (GT os o.kids ++ GT os (innerL o))) ++ GT os r := by
    simp only [restE, GT, List.flatMap_cons, List.flatMap_nil, List.append_nil]
    rw [TR_some h ho]
    simp [belowO]
  rw [restE_app, restE_app, restE_app, restE_app, restE_ne, restE_ne, restE_ne, e1, List.perm_iff_count]
  intro a
  simp only [List.count_append, List.count_cons]
  omega
theorem rest_new {i : Nat} {r M : List Nat} {E : List (List Nat)} (h : Sim ns os) (hok : OkQ ns (E ++ [i :: r])) (hp : (M ++ restE os (E ++ [i :: r])).Perm (List.range os.length)) : i ∉ M ∧ ∃ o n, os[i]? = some o ∧ ns[i]? = some n ∧ PathOf (nextF ns) n.next r := by
  obtain ⟨_, _, m, hm, hr⟩ := hok (i :: r) (by simp)
  obtain ⟨n, hn, rfl⟩ := next_some hm
  obtain ⟨o, ho, _⟩ := h.getO hn
  refine ⟨fun hin => ?_, o, n, ho, hn, hr⟩
  have hnd := hp.nodup_iff.2 List.nodup_range
  have hi : i ∈ restE os (E ++ [i :: r]) := by
    rw [restE_app]
    refine List.mem_append.2 (.inr ?_)
    unfold restE GT
    simp only [List.flatMap_cons, List.flatMap_nil, List.append_nil]
    rw [TR_some h ho]
    simp
  exact (List.nodup_append.1 hnd).2.2 i hin i hi rfl
end
end Go.Proofs.Ytlbkoafeedlfaaa

namespace Go.Proofs.Ytlbkoafeedlfaaa
open Go.RowKit

theorem ne_len (l : List Nat) : (ne l).length ≤ 1 := by unfold ne; split <;> simp
theorem ids_in {w : World} {base m c d : Nat} {a : Option Addr} {T : List Nat} (h : w.ownsRow base 3 1 (.slice a m c) m (cellsI T)) (hd : d < w.heap.size) :
    ∃ kb, kb < w.heap.size ∧ (kb = d ∨ base ≤ kb) ∧ ∀ (j : Nat) (t : Nat), T[j]? = some t → a = some ⟨kb, 0, none⟩ ∧ w.cell? ⟨kb, j, none⟩ = some (.int .i64 t) := by
  have hlen := h.1
  rcases h.2 with ⟨e, rfl⟩ | ⟨g, cap, cur, e, hbb, hgg, hc, _⟩
  · refine ⟨d, hd, .inl rfl, fun j t ht => ?_⟩
    have hT : T = [] := by
      have : (cellsI T).length = 0 := by simpa using hlen
      simpa [cellsI] using this
    subst hT
    cases ht
  · have ea : a = some ⟨g, 0, none⟩ := by simp at e; exact e.1
    subst ea
    refine ⟨g, lt_of_block hgg, .inr hbb, fun j t ht => ⟨rfl, ?_⟩⟩
    have hj : j < T.length := (List.getElem?_eq_some_iff.1 ht).1
    have hm : T.length = m := by have := hlen; simp [cellsI] at this; exact this
    rw [h.cellAt j (by omega)]
    simp [cellsI, ht]
theorem tops_eq {ns : List NodeM} {os : List OneM} (h : Sim ns os) : topsN ns = topsL os := by
  unfold topsN topsL
  rw [h.len]
  refine List.filter_congr fun i hi => ?_
  have hi' := List.mem_range.1 hi
  obtain ⟨n, hn, sm⟩ := h.get (List.getElem?_eq_getElem hi')
  have ho := List.getElem?_eq_getElem hi'
  have hpar : n.parent = os[i].up := by rw [h.tell hn ho]; rfl
  unfold topN topB upO
  rw [hn, ho]
  show ((n.parent == -1) && !heldN ns i) = _
  rw [hpar]
  have hH : heldN ns i = true ↔ os[i].host ≠ -1 := by
    unfold heldN
    rw [List.any_eq_true]
    constructor
    · rintro ⟨q, hq, hqi⟩
      obtain ⟨x, hx⟩ := List.getElem?_of_mem hq
      obtain ⟨p, hp, sp⟩ := h.getO hx
      have e : p.inner = (i : Int) := by have := sp.inner; simp at hqi; omega
      rcases h.inner x p hp with e2 | ⟨e2, m, hm, hh⟩
      · omega
      · have : x + 1 = i := by omega
        subst this
        rw [ho] at hm; cases hm
        omega
    · intro hne
      rcases h.host i _ ho with e | ⟨_, k, m, hk, rfl, hm, hin⟩
      · exact absurd e hne
      · obtain ⟨q, hq, sq⟩ := h.get hm
        exact ⟨q, List.mem_of_getElem? hq, by have := sq.inner; simp; omega⟩
  by_cases hu : os[i].up = -1
  · cases hb : heldN ns i with
    | true => have := hH.1 hb; simp [hu, this]
    | false =>
      have : os[i].host = -1 := by
        by_cases e : os[i].host = -1
        · exact e
        · have := hH.2 e; rw [hb] at this; cases this
      simp [hu, this]
  · simp [hu]
theorem top_path {ns : List NodeM} {t : Nat} (hs : ∀ (i : Nat) n, ns[i]? = some n → n.parent = -1 → n.prev = -1 ∧ n.next = -1) (ht : t ∈ topsN ns) : PathOf (nextF ns) t [t] := by
  have h2 := (List.mem_filter.1 ht).2
  unfold topN at h2
  rw [Bool.and_eq_true] at h2
  cases hn : ns[t]? with
  | none => rw [hn] at h2; simp at h2
  | some n =>
    rw [hn] at h2
    have hp : n.parent = -1 := by simpa using h2.1
    exact ⟨rfl, -1, by unfold nextF; rw [hn, Option.map_some, (hs t n hn hp).2], rfl⟩
theorem inner_pathS {ns : List NodeM} {os : List OneM} (h : Sim ns os) {i : Nat} {n : NodeM} {o : OneM} (hn : ns[i]? = some n) (ho : os[i]? = some o) : PathOf (nextF ns) n.inner (innerL o) := by
  have e : n.inner = o.inner := by have := (h.same i n o hn ho).inner; omega
  rw [e]
  by_cases hi : o.inner = -1
  · unfold innerL; rw [if_pos hi]; exact hi
  · have hc : o.inner.toNat ∈ innerL o := by unfold innerL; rw [if_neg hi]; simp
    obtain ⟨e1, m, hm, hu, _⟩ := h.inner_facts ho hc
    obtain ⟨q, hq, sq⟩ := h.get hm
    have hp : q.parent = -1 := by rw [h.tell hq hm]; exact hu
    unfold innerL
    rw [if_neg hi]
    exact ⟨e1, -1, by unfold nextF; rw [hq, Option.map_some, (h.loose _ q hq hp).2], rfl⟩
end Go.Proofs.Ytlbkoafeedlfaaa

namespace Go.Proofs.Ytlbkoafeedlfaaa
open Go.RowKit

theorem rs_new {w w1 w2 : World} {kb : Nat} (hg : Below w.heap.size w w1) (hlt : w.heap.size < w1.heap.size) (hb : Below (w1.heap.size + 1) (w1.alloc (.cells #[.slice none 0 0] 180)) w2) (hk : kb < w2.heap.size) (hkb : kb = w.heap.size ∨ w1.heap.size + 1 ≤ kb) : RS w w2 w1.heap.size [w.heap.size, kb] [] := by
  have h0 : StS (w1.alloc (.cells #[.slice none 0 0] 180)) w.heap.size w1.heap.size 180 3 1 0 [] (fun k => k = w1.heap.size) :=
    ⟨.slice none 0 0, ⟨heap_alloc_new w1 _, World.ownsRow_nil _ _ _ _, hg.size, by decide⟩, fun k => by simp [Value.ownBlock]⟩
  have hs : (w1.alloc (.cells #[.slice none 0 0] 180)).heap.size = w1.heap.size + 1 := by simp
  refine ⟨⟨_, h0.below (by rw [hs]; exact hb), fun k hin => ?_⟩, (hg.alloc hg.size _).trans (hb.mono (by have := hg.size; omega))⟩
  have := hb.size
  rw [hs] at this
  simp at hin
  rcases hin with rfl | rfl
  · exact ⟨by omega, by omega⟩
  · exact ⟨by omega, hk⟩

theorem pop_after {w wr w2 : World} {b kb n i : Nat} {M : List Nat} {E' : List (List Nat)} (hbs : BS wr w.heap.size n (fun q => decide (q ∈ M))) (h2 : RS w w2 b [w.heap.size, kb] E') (k2 : Kept [w.heap.size, kb] wr w2) (hiN : i < n) (hiM : i ∉ M) :
    w2.cell? ⟨w.heap.size, i, none⟩ = some (.bool false) ∧ w2.frozen? ⟨w.heap.size, i, none⟩ = false ∧ RS w (w2.setCell ⟨w.heap.size, i, none⟩ (.bool true)) b [w.heap.size, kb] E' ∧ BS (w2.setCell ⟨w.heap.size, i, none⟩ (.bool true)) w.heap.size n (fun q => decide (q ∈ i :: M)) := by
  have hb2 := hbs.kept (k2.2 _ (by simp)) k2.1
  refine ⟨?_, hb2.free i hiN, h2.mark (by simp) (Nat.le_refl _) _, hb2.set i hiN (fun q => ?_)⟩
  · rw [hb2.cell i hiN]
    simp [hiM]
  · by_cases e : q = i <;> simp [e]

set_option maxHeartbeats 8000000 in
theorem reached_any {w : World} {g cap : Nat} {ns : List NodeM} {os : List OneM} (h : Nods w g ns) (hs : Sim ns os) (hn : ns.length ≤ 32768) (hin : ∀ (i : Nat) n, ns[i]? = some n → n.inner = -1 ∨ ∃ c : Nat, n.inner = c ∧ c < ns.length) :
    Calls Try.prog 127 #[.slice (some ⟨g, 0, none⟩) ns.length cap] w fun e w' => e = .returned (.bool true) ∧ Below w.heap.size w w' := by
  obtain ⟨i4, hi4, hy0, hy1, hy2⟩ := info_parts Try.info4
  have HM := hide hn
  have HNB := hide h
  have HIN := hide hin
  have HS := hide hs
  have hmz : (ns.length : Int) ≤ 32768 := by omega
  have hgs : g < w.heap.size := h.1
  have hne : g ≠ w.heap.size := by omega
  have hne' : w.heap.size ≠ g := by omega
  clear h hn hin hs
  go_enter Try.func127, Try.ntmps127
  set_option maxRecDepth 10000 in
  go_wp2_with (first
    | (go_at_call 144; refine (tops_any (ns := ns) (cap := cap) ((unhide HNB).below ((unhide HG1).alloc (unhide HG1).size _)) (unhide HM) (unhide HIN)).mono ?_; rintro e w2 ⟨a, m, c, rfl, hm, hown, hb2⟩; have HO2 := hide hown; have HB2 := hide hb2; have HMM := hide hm; clear hown hb2 hm)
    | (at_make; go_must (refine wpList_make_full _ rfl _ _ 178 rfl w.heap.size 4 i4 _ 1 Try.underlying178 hi4 hy0 hy1 _ _ _ _ ns.length rfl rfl rfl rfl (by rw [hy2]; have := unhide HM; omega) (by unfold maxLen; have := unhide HM; omega) (Nat.le_refl _) ?_); intro w1 hown1 hgrow1; have HBS := hide (bs_new hown1); have HG1 : Hid (Below w.heap.size w w1) := hide ((Below.refl _ w).grown hgrow1 (Nat.le_refl _) (by simp)); clear hown1 hgrow1))
  have hlt1 : w.heap.size < w1.heap.size := (unhide HBS).lt
  have hB2 : Below (w1.heap.size + 1) (w1.alloc (.cells #[.slice none 0 0] 180)) w2 := by have := unhide HB2; rw [World.size_alloc] at this; exact this
  have hO2 := unhide HO2
  rw [World.size_alloc] at hO2
  have hsz2 : w1.heap.size + 1 ≤ w2.heap.size := by have := hB2.size; rw [World.size_alloc] at this; exact this
  obtain ⟨kb, hkb, hkd, hids⟩ := ids_in (d := w.heap.size) hO2 (by omega)
  have HR0 := hide (rs_new (unhide HG1) hlt1 hB2 hkb hkd)
  have HBS2 : Hid (BS w2 w.heap.size ns.length (fun _ => false)) := hide (((unhide HBS).below ((Below.refl w1.heap.size w1).alloc (Nat.le_refl _) _) hlt1).below hB2 (by omega))
  have HIDS := hide hids
  have HTP : Hid (∀ (t : Nat), t ∈ topsN ns → PathOf (nextF ns) t [t]) := hide (fun t ht => top_path (unhide HS).loose ht)
  have hmn : (m : Int) ≤ 32768 := by
    have := List.length_filter_le (topN ns) (List.range ns.length)
    rw [List.length_range] at this
    have h2 : (topsN ns).length ≤ ns.length := this
    have h3 := unhide HMM
    omega
  clear hids hkb hkd hsz2 hO2 hB2 HB2 HO2 HBS HG1
  go_loopg [7, 17] m (fun k _ s17 wx => ∃ (j : Nat), s17 = .int .i64 j ∧ j + k = m ∧ RS w wx w1.heap.size [w.heap.size, kb] (((topsN ns).take j).map fun t => [t]) ∧ (∀ (q t : Nat), (topsN ns)[q]? = some t → a = some ⟨kb, 0, none⟩ ∧ wx.cell? ⟨kb, q, none⟩ = some (.int .i64 t)) ∧ BS wx w.heap.size ns.length (fun _ => false))
  case atStart => exact ⟨0, rfl, by omega, by simpa using unhide HR0, unhide HIDS, unhide HBS2⟩
  case round =>
    clear HR0 HBS2 HIDS
    obtain ⟨j, rfl, hjk, hrs, hids, hbs⟩ := hrel
    have HRS := hide hrs
    have HBS := hide hbs
    have HIDS := hide hids
    by_cases hj : j < m
    · have hjz : (j : Int) < (m : Int) := by omega
      obtain ⟨t, ht⟩ : ∃ t, (topsN ns)[j]? = some t := ⟨_, List.getElem?_eq_getElem (by have := unhide HMM; omega)⟩
      obtain ⟨rfl, d0⟩ := hids j t ht
      have HTT := hide ht
      have HPU := hide (hrs.put (by simp; omega) ((unhide HTP) t (List.mem_of_getElem? ht)))
      clear hrs hbs hids ht
      set_option maxRecDepth 10000 in
      go_wp2_with (go_at_call 142; refine (unhide HPU).mono ?_; rintro e w3 ⟨rfl, h3, k3⟩; have H3 := hide h3; have K3 := hide k3; clear h3 k3)
      go_roundg (gk - 1)
      case measure => omega
      case rel =>
        have e : ((topsN ns).take (j + 1)).map (fun t => [t]) = ((topsN ns).take j).map (fun t => [t]) ++ ne [t] := by rw [List.take_add_one, unhide HTT]; simp [ne]
        refine ⟨j + 1, by go_num, by omega, by rw [e]; exact unhide H3, fun q t hq => ?_, (unhide HBS).kept ((unhide K3).2 _ (by simp)) (unhide K3).1⟩
        · obtain ⟨e1, e2⟩ := (unhide HIDS) q t hq
          exact ⟨e1, (World.cell?_of_block (w := wr) (a := ⟨kb, q, none⟩) ((unhide K3).2 kb (by simp))).trans e2⟩
    · have hjz : ¬ (j : Int) < (m : Int) := by omega
      obtain rfl : j = m := by omega
      clear hrs hbs hids
      have HR1 : Hid (RS w wr w1.heap.size [w.heap.size, kb] ((topsN ns).map fun t => [t])) := hide (by have := unhide HRS; rw [unhide HMM, List.take_length] at this; exact this)
      have HOK : Hid (OkQ ns ((topsN ns).map fun t => [t])) := hide (fun l hl => by
        obtain ⟨t, ht, rfl⟩ := List.mem_map.1 hl
        exact ⟨by simp, (unhide HTP) t ht⟩)
      have HPM : Hid (([] ++ restE os ((topsN ns).map fun t => [t])).Perm (List.range os.length)) := hide (by
        have := tops_perm (unhide HS)
        rw [tops_eq (unhide HS)]
        have e : restE os ((topsL os).map fun t => [t]) = (topsL os).flatMap (TR os) := by unfold restE GT; rw [List.flatMap_map]; simp
        rw [List.nil_append, e]; exact this)
      have hol : ns.length = os.length := (unhide HS).len
      have HOL := hide hol
      clear hol HRS HIDS HTP HMM
      set_option maxRecDepth 10000 in
      go_wp2
      go_loopg [8, 9] ns.length (fun k s8 _ wx => ∃ (M : List Nat) (E : List (List Nat)), s8 = .int .i64 M.length ∧ M.length + k = ns.length ∧ RS w wx w1.heap.size [w.heap.size, kb] E ∧ BS wx w.heap.size ns.length (fun q => decide (q ∈ M)) ∧ OkQ ns E ∧ (M ++ restE os E).Perm (List.range os.length))
      case atStart => exact ⟨[], _, rfl, by simp, unhide HR1, (unhide HBS).same (fun k => by simp), unhide HOK, unhide HPM⟩
      case round =>
        clear HR1 HBS HOK HPM
        obtain ⟨M, E, rfl, hMk, hrs, hbs, hok, hpm⟩ := hrel
        have hlen : M.length + (restE os E).length = ns.length := by
          have := hpm.length_eq
          rw [List.length_append, List.length_range] at this
          have := unhide HOL
          omega
        have hEl := restE_len (unhide HS) hok
        rcases List.eq_nil_or_concat E with rfl | ⟨E', l, rfl⟩
        · have hMn : ((M.length : Int) == (ns.length : Int)) = true := by
            have : M.length = ns.length := by simpa [restE] using hlen
            simp [this]
          have HEm : Hid (Calls Try.prog 145 #[.pointer (some ⟨w1.heap.size, 0, none⟩)] wr fun e w' => e = .returned (.bool true) ∧ wr = w') := hide (by have := hrs.empty; simpa using this)
          have HBW := hide hrs.2
          clear hrs hbs hok hpm hlen hEl hMk
          set_option maxRecDepth 10000 in
          go_wp2_with (go_at_call 145; refine (unhide HEm).mono ?_; rintro e w3 ⟨rfl, rfl⟩)
          go_ret
          exact ⟨by simp, unhide HBW⟩
        · rw [List.concat_eq_append] at hrs hok hpm hlen hEl
          obtain ⟨hl, hpl⟩ := hok l (by simp)
          cases l with
          | nil => exact absurd rfl hl
          | cons i r =>
            obtain ⟨hiM, o, n, ho, hn, hnext⟩ := rest_new (unhide HS) hok hpm
            have hkids := ((unhide HS).kids i o ho).path hn
            have hinn := inner_pathS (unhide HS) hn ho
            have HSTEP := hide (rest_step (unhide HS) ho hpm)
            have hok' : OkQ ns E' := fun q hq => hok q (by simp [hq])
            have HOK := hide (((hok'.add hnext).add hkids).add hinn)
            have hiN : i < ns.length := (List.getElem?_eq_some_iff.1 hn).1
            have hil : (i : Int) < (ns.length : Int) := by omega
            have hE'l : E'.length + 3 ≤ 100000 := by
              have h1 := hEl
              rw [List.length_append, List.length_singleton] at h1
              have := unhide HM
              omega
            have HEL := hide hE'l
            have HEm : Hid (Calls Try.prog 145 #[.pointer (some ⟨w1.heap.size, 0, none⟩)] wr fun e w' => e = .returned (.bool false) ∧ wr = w') := hide (by have := hrs.empty; simpa using this)
            have HPO := hide (hrs.pop (by omega))
            have HBS := hide hbs
            have HNN := hide hn
            have hgk : 0 < gk := by
              have h1 := hEl
              rw [List.length_append, List.length_singleton] at h1
              omega
            have HNX := hide hnext
            have HKI := hide hkids
            have HII := hide hinn
            have HIM := hide hiM
            have HIN' := hide hiN
            clear hrs hbs hok hok' hpm hlen hEl hl hpl ho hn hnext hkids hinn hiM hiN hE'l
            set_option maxRecDepth 10000 in
            go_wp2_with (first
              | (go_at_call 145; refine (unhide HEm).mono ?_; rintro e w3 ⟨rfl, rfl⟩)
              | (go_at_call 146; refine (unhide HPO).mono ?_; rintro e w2' ⟨rfl, h2, k2⟩; obtain ⟨d0, d1, h2m, hb2⟩ := pop_after (unhide HBS) h2 k2 (unhide HIN') (unhide HIM); have c10 := (((unhide HNB).below h2.2).2 i n (unhide HNN)).c10; have H2M := hide h2m; have HBS2 := hide hb2; clear h2 k2 hb2 h2m)
              | (go_at_call 142; have _x := unhide H4; refine ((unhide H4).put (by have := unhide HEL; have := ne_len r; have := ne_len o.kids; simp only [List.length_append]; omega) (unhide HII)).mono ?_; rintro e w5 ⟨rfl, h5, k5⟩; have H5 := hide h5; have HBS5 := hide ((unhide HBS4).kept (k5.2 _ (by simp)) k5.1); clear h5 k5)
              | (go_at_call 142; have _x := unhide H3; refine ((unhide H3).put (by have := unhide HEL; have := ne_len r; simp only [List.length_append]; omega) (unhide HKI)).mono ?_; rintro e w4 ⟨rfl, h4, k4⟩; have c11 := (((unhide HNB).below h4.2).2 i n (unhide HNN)).c11; have H4 := hide h4; have HBS4 := hide ((unhide HBS3).kept (k4.2 _ (by simp)) k4.1); clear h4 k4)
              | (go_at_call 142; refine ((unhide H2M).put (by have := unhide HEL; omega) (unhide HNX)).mono ?_; rintro e w3 ⟨rfl, h3, k3⟩; have c7 := (((unhide HNB).below h3.2).2 i n (unhide HNN)).c7; have H3 := hide h3; have HBS3 := hide ((unhide HBS2).kept (k3.2 _ (by simp)) k3.1); clear h3 k3))
            go_roundg (gk - 1)
            case measure => omega
            case rel => exact ⟨i :: M, _, by simp, by simp; omega, unhide H5, unhide HBS5, unhide HOK, unhide HSTEP⟩
end Go.Proofs.Ytlbkoafeedlfaaa

namespace Go.Proofs.Ytlbkoafeedlfaaa
open Go.RowKit

theorem nods_of {w : World} {base g cap : Nat} {ns : List NodeM} (h : w.ownsRow base 37 12 (.slice (some ⟨g, 0, none⟩) ns.length cap) ns.length (nodeRow (ns.map bareN))) (hg : g < w.heap.size) : Nods w g ns := by
  refine ⟨hg, fun i n hi => ?_⟩
  have hlt : i < ns.length := (List.getElem?_eq_some_iff.1 hi).1
  have e : ∀ j, j < 12 → w.cell? ⟨g, i * 12 + j, none⟩ = (bareN n).cells[j]? := by
    intro j hj
    rw [h.cellAt (i * 12 + j) (by omega), nodeRow, flat_get NodeM.cells 12 node_len (ns.map bareN) i j hj, List.getElem?_map, hi]; rfl
  exact ⟨e 0 (by omega), e 1 (by omega), e 2 (by omega), e 3 (by omega), e 4 (by omega), e 5 (by omega), e 6 (by omega), e 7 (by omega), e 8 (by omega), e 9 (by omega), e 10 (by omega), e 11 (by omega)⟩

theorem lastI_app (L : List Nat) (z : Nat) : lastI (L ++ [z]) = (z : Int) := by
  unfold lastI
  simp

section
variable {w : World} {g cap : Nat} {ns : List NodeM} {os : List OneM}
theorem kids_all (h : Nods w g ns) (hs : Sim ns os) (i : Nat) (n : NodeM) (hi : ns[i]? = some n) :
    Calls Try.prog 124 #[.slice (some ⟨g, 0, none⟩) ns.length cap, .int .i64 i] w fun e w' => e = .returned (.bool true) ∧ Below w.heap.size w w' := by
  obtain ⟨o, ho, _⟩ := hs.getO hi
  obtain ⟨e1, e2, _⟩ := hs.ends' hi ho
  rcases List.eq_nil_or_concat o.kids with e | ⟨L, z, e⟩
  · exact kidsAgree_none h i n hi (by rw [e1, e]; rfl) (by rw [e2, e]; rfl)
  · rw [List.concat_eq_append] at e
    have hz : o.kids[L.length]? = some z := by rw [e]; simp
    obtain ⟨my, hy, y1, _, y3⟩ := hs.child ho hz
    have hlen : o.kids.length = L.length + 1 := by rw [e]; simp
    obtain ⟨x, r, er⟩ : ∃ x r, o.kids = x :: r := by
      cases hk : o.kids with
      | nil => rw [hk] at hlen; simp at hlen
      | cons x r => exact ⟨x, r, rfl⟩
    have hx : o.kids[0]? = some x := by rw [er]; rfl
    obtain ⟨mx, hx', x1, x2, _⟩ := hs.child ho hx
    refine kidsAgree_some h i n hi x mx hx' z my hy (by rw [e1, er]; rfl) (by rw [e2, e, lastI_app]) x1 (by rw [x2]; rfl) y1 ?_
    rw [y3, ← hlen, List.drop_length]; rfl
theorem nbrs_all (h : Nods w g ns) (hs : Sim ns os) (i : Nat) (n : NodeM) (hi : ns[i]? = some n) :
    Calls Try.prog 125 #[.slice (some ⟨g, 0, none⟩) ns.length cap, .int .i64 i] w fun e w' => e = .returned (.bool true) ∧ Below w.heap.size w w' := by
  obtain ⟨o, ho, _⟩ := hs.getO hi
  obtain ⟨_, _, ep⟩ := hs.ends' hi ho
  rcases hs.up i o ho with e | ⟨p, m, hp, hm, hin⟩
  · have hpar : n.parent = -1 := by rw [ep]; exact e
    obtain ⟨l1, l2⟩ := hs.loose i n hi hpar
    exact nbrs_none h i n hi hpar l1 l2
  · obtain ⟨np, hnp, _⟩ := hs.get hm
    obtain ⟨f1, f2, _⟩ := hs.ends' hnp hm
    obtain ⟨A, B, hAB⟩ := List.append_of_mem hin
    have hpar : n.parent = (p : Int) := by rw [ep]; exact hp
    have hk : m.kids[A.length]? = some i := by rw [hAB]; simp
    obtain ⟨n', hn', c1, c2, c3⟩ := hs.child hm hk
    rw [hi] at hn'; cases hn'
    have tA : m.kids.take A.length = A := by rw [hAB]; simp
    have dB : m.kids.drop (A.length + 1) = B := by rw [hAB]; simp
    rw [tA] at c2
    rw [dB] at c3
    have nextF' : ∀ y B', B = y :: B' → ∃ my, ns[y]? = some my ∧ my.prev = (i : Int) ∧ my.parent = (p : Int) := by
      rintro y B' rfl
      have hy : m.kids[A.length + 1]? = some y := by rw [hAB]; simp
      obtain ⟨my, hmy, y1, y2, _⟩ := hs.child hm hy
      refine ⟨my, hmy, ?_, y1⟩
      rw [y2, lastI_take hk]
    have prevF' : ∀ A' x, A = A' ++ [x] → ∃ mx, ns[x]? = some mx ∧ mx.next = (i : Int) ∧ mx.parent = (p : Int) := by
      rintro A' x rfl
      have hx : m.kids[A'.length]? = some x := by rw [hAB]; simp
      obtain ⟨mx, hmx, x1, _, x3⟩ := hs.child hm hx
      refine ⟨mx, hmx, ?_, x1⟩
      rw [x3, show m.kids.drop (A'.length + 1) = i :: B by rw [hAB]; simp]; rfl
    rcases List.eq_nil_or_concat A with eA | ⟨A', x, eA⟩
    · have g1 : n.prev = -1 := by rw [c2, eA]; rfl
      have g2 : np.first = (i : Int) := by rw [f1, hAB, eA]; rfl
      cases hB : B with
      | nil => exact nbrs_only h i n hi p np hnp hpar g1 (by rw [c3, hB]; rfl) g2 (by rw [f2, hAB, hB, lastI_app])
      | cons y B' =>
        obtain ⟨my, hmy, y1, y2⟩ := nextF' y B' hB
        exact nbrs_first h i n hi p np hnp y my hmy hpar g1 (by rw [c3, hB]; rfl) g2 y1 y2
    · rw [List.concat_eq_append] at eA
      obtain ⟨mx, hmx, x1, x2⟩ := prevF' A' x eA
      have g1 : n.prev = (x : Int) := by rw [c2, eA, lastI_app]
      cases hB : B with
      | nil => exact nbrs_last h i n hi p np hnp x mx hmx hpar g1 (by rw [c3, hB]; rfl) (by rw [f2, hAB, hB, lastI_app]) x1 x2
      | cons y B' =>
        obtain ⟨my, hmy, y1, y2⟩ := nextF' y B' hB
        exact nbrs_mid h i n hi x mx hmx y my hmy p hpar g1 (by rw [c3, hB]; rfl) x1 x2 y1 y2
theorem inner_all (hs : Sim ns os) (i : Nat) (n : NodeM) (hi : ns[i]? = some n) : n.inner = -1 ∨ ∃ c : Nat, n.inner = c ∧ c < ns.length := by
  obtain ⟨o, ho, so⟩ := hs.getO hi
  have e : n.inner = o.inner := by have := so.inner; omega
  rcases hs.inner i o ho with h1 | ⟨h1, m, hm, _⟩
  · exact .inl (by omega)
  · refine .inr ⟨i + 1, by omega, ?_⟩
    rw [hs.len]; exact (List.getElem?_eq_some_iff.1 hm).1
theorem contents_all (h : Nods w g ns) (hs : Sim ns os) (hps : PS os) (i : Nat) (n : NodeM) (hi : ns[i]? = some n) :
    Calls Try.prog 126 #[.slice (some ⟨g, 0, none⟩) ns.length cap, .int .i64 i] w fun e w' => e = .returned (.bool true) ∧ Below w.heap.size w w' := by
  obtain ⟨o, ho, so⟩ := hs.getO hi
  have hk : n.kind = o.kind := by rw [hs.tell hi ho]; rfl
  have hsp : n.space = o.space := by rw [hs.tell hi ho]; rfl
  have hna : n.name = o.name := by rw [hs.tell hi ho]; rfl
  have hin : n.inner = o.inner := by rw [hs.tell hi ho]; rfl
  have htm := hps.tm o (List.mem_of_getElem? ho)
  unfold TmOk tmB at htm
  by_cases hI : o.inner = -1
  · have hf : (o.kind == 1 && o.space == 0 && isT o.name) = false := by
      cases hb : (o.kind == 1 && o.space == 0 && isT o.name) with
      | false => rfl
      | true => exact absurd hI (htm.2 hb)
    by_cases h1 : o.kind = 1
    · by_cases h2 : o.space = 0
      · exact contents_n3 h i n hi (by rw [hk]; exact h1) (by rw [hsp]; exact h2) (by rw [hna]; simpa [h1, h2] using hf) (by rw [hin]; exact hI)
      · exact contents_n2 h i n hi (by rw [hk]; exact h1) (by rw [hsp]; simpa using h2) (by rw [hin]; exact hI)
    · exact contents_n1 h i n hi (by rw [hk]; simpa using h1) (by rw [hin]; exact hI)
  · have ht := htm.1 hI
    simp only [Bool.and_eq_true, beq_iff_eq] at ht
    have hc : o.inner.toNat ∈ innerL o := by unfold innerL; rw [if_neg hI]; simp
    obtain ⟨e1, m, hm, hu, hh⟩ := hs.inner_facts ho hc
    obtain ⟨q, hq, sq⟩ := hs.get hm
    have hk5 : m.kind = 5 := by
      rcases hs.host _ m hm with e | ⟨e, _⟩
      · omega
      · exact e
    exact contents_some h i n hi o.inner.toNat q hq (by rw [hk]; exact ht.1.1) (by rw [hsp]; exact ht.1.2) (by rw [hna]; exact ht.2) (by rw [hin]; exact e1) (by rw [hs.tell hq hm]; exact hk5) (by rw [hs.tell hq hm]; exact hu)
end
end Go.Proofs.Ytlbkoafeedlfaaa

namespace Go.Proofs.Ytlbkoafeedlfaaa
open Go.RowKit

theorem links_in {ns : List NodeM} {os : List OneM} (hs : Sim ns os) (i : Nat) (n : NodeM) (hi : ns[i]? = some n) : ∀ v ∈ [n.parent, n.first, n.last, n.prev, n.next, n.inner], v = -1 ∨ 0 ≤ v ∧ v < (ns.length : Int) := by
  obtain ⟨o, ho, _⟩ := hs.getO hi
  obtain ⟨e1, e2, ep⟩ := hs.ends' hi ho
  have isIn : ∀ (c : Nat), c < os.length → ((c : Int) = -1 ∨ 0 ≤ (c : Int) ∧ (c : Int) < (ns.length : Int)) := fun c hc => .inr ⟨by omega, by rw [hs.len]; omega⟩
  have kidIn : ∀ (p : Nat) (m : OneM), os[p]? = some m → ∀ c ∈ m.kids, c < os.length := fun p m hm c hc => by
    obtain ⟨q, hq, _⟩ := hs.down p m c hm hc
    exact (List.getElem?_eq_some_iff.1 hq).1
  have hd : ∀ (p : Nat) (m : OneM), os[p]? = some m → ∀ L : List Nat, (∀ c ∈ L, c ∈ m.kids) → (headI L = -1 ∨ 0 ≤ headI L ∧ headI L < (ns.length : Int)) := fun p m hm L hL => by
    cases L with
    | nil => exact .inl rfl
    | cons x r => exact isIn x (kidIn p m hm x (hL x (by simp)))
  have ls : ∀ (p : Nat) (m : OneM), os[p]? = some m → ∀ L : List Nat, (∀ c ∈ L, c ∈ m.kids) → (lastI L = -1 ∨ 0 ≤ lastI L ∧ lastI L < (ns.length : Int)) := fun p m hm L hL => by
    rcases lastI_mem (A := L) with e | ⟨x, hx, e⟩
    · exact .inl e
    · rw [e]; exact isIn x (kidIn p m hm x (hL x hx))
  have hnb : (n.parent = -1 ∨ 0 ≤ n.parent ∧ n.parent < (ns.length : Int)) ∧ (n.prev = -1 ∨ 0 ≤ n.prev ∧ n.prev < (ns.length : Int)) ∧ (n.next = -1 ∨ 0 ≤ n.next ∧ n.next < (ns.length : Int)) := by
    rcases hs.up i o ho with e | ⟨p, m, hp, hm, hin⟩
    · have hpar : n.parent = -1 := by rw [ep]; exact e
      obtain ⟨l1, l2⟩ := hs.loose i n hi hpar
      exact ⟨.inl hpar, .inl l1, .inl l2⟩
    · obtain ⟨k, hk⟩ := List.getElem?_of_mem hin
      obtain ⟨n', hn', c1, c2, c3⟩ := hs.child hm hk
      rw [hi] at hn'; cases hn'
      refine ⟨by rw [c1]; exact isIn p (List.getElem?_eq_some_iff.1 hm).1, by rw [c2]; exact ls p m hm _ (fun c hc => List.mem_of_mem_take hc), by rw [c3]; exact hd p m hm _ (fun c hc => List.mem_of_mem_drop hc)⟩
  intro v hv
  simp only [List.mem_cons, List.not_mem_nil, or_false] at hv
  rcases hv with rfl | rfl | rfl | rfl | rfl | rfl
  · exact hnb.1
  · rw [e1]; exact hd i o ho _ (fun c hc => hc)
  · rw [e2]; exact ls i o ho _ (fun c hc => hc)
  · exact hnb.2.1
  · exact hnb.2.2
  · rcases inner_all hs i n hi with e | ⟨c, e, hc⟩
    · exact .inl e
    · exact .inr ⟨by omega, by omega⟩

theorem inside_six {w : World} {N b cap : Nat} {v0 v1 v2 v3 v4 v5 : Int} (hc : w.heap[b]? = some (.cells #[.int .i64 v0, .int .i64 v1, .int .i64 v2, .int .i64 v3, .int .i64 v4, .int .i64 v5] 3)) (hv : ∀ v ∈ [v0, v1, v2, v3, v4, v5], v = -1 ∨ 0 ≤ v ∧ v < (N : Int)) :
    Calls Try.prog 123 #[.int .i64 N, .slice (some ⟨b, 0, none⟩) 6 cap] w fun e w' => e = .returned (.bool true) ∧ Below w.heap.size w w' := by
  refine inside_any (l := [v0, v1, v2, v3, v4, v5]) (by simp) (fun i v hi => ?_) hv
  have hi6 : i < 6 := (List.getElem?_eq_some_iff.1 hi).1
  rcases (by omega : i = 0 ∨ i = 1 ∨ i = 2 ∨ i = 3 ∨ i = 4 ∨ i = 5) with rfl | rfl | rfl | rfl | rfl | rfl
  all_goals
    simp at hi
    subst hi
    simp [World.cell?, hc]

set_option maxHeartbeats 8000000 in
theorem links_any {w : World} {g cap : Nat} {ns : List NodeM} {os : List OneM} (h : Nods w g ns) (hs : Sim ns os) (hps : PS os) (hn : ns.length ≤ 32768) :
    Calls Try.prog 86 #[.slice (some ⟨g, 0, none⟩) ns.length cap] w fun e w' => e = .returned (.bool true) ∧ Below w.heap.size w w' := by
  obtain ⟨o0, ho0, hk0⟩ := hps.doc
  obtain ⟨n0, hn0, s0⟩ := hs.get ho0
  have hp0 : n0.parent = -1 := by rw [s0.up]; exact hs.alone 0 o0 ho0 (.inl hk0)
  have hpos : 0 < ns.length := (List.getElem?_eq_some_iff.1 hn0).1
  have hposz : (0 : Int) < (ns.length : Int) := by omega
  have b0 : ((ns.length : Int) == 0) = false := by rw [beq_eq_false_iff_ne]; omega
  have e6 : w.cell? ⟨g, 6, none⟩ = some (.int .i64 (-1)) := by have := (h.2 0 n0 hn0).c6; rw [hp0] at this; exact this
  have HNB := hide h
  have HS := hide hs
  have HPS := hide hps
  have HM := hide hn
  have hmz : (ns.length : Int) ≤ 32768 := by omega
  clear h hs hps hn hpos hn0 s0 hp0 ho0 hk0
  go_enter Try.func86, Try.ntmps86
  set_option maxRecDepth 10000 in
  go_wp2
  go_loopg [4, 18] ns.length (fun k _ s18 wx => ∃ (j : Nat), s18 = .int .i64 j ∧ j + k = ns.length ∧ Below w.heap.size w wx)
  case atStart => exact ⟨0, rfl, by omega, by first | exact Below.refl _ w | exact below_drewN' (Below.refl _ w) _⟩
  case round =>
    obtain ⟨j, rfl, hjk, hbw⟩ := hrel
    have HBW := hide hbw
    by_cases hj : j < ns.length
    · have hjz : (j : Int) < (ns.length : Int) := by omega
      obtain ⟨n, hn⟩ : ∃ n, ns[j]? = some n := ⟨_, List.getElem?_eq_getElem hj⟩
      have hgl : g < wr.heap.size := ((unhide HNB).below hbw).1
      obtain ⟨c0, c1, c2, c3, c4, c5, c6, c7, c8, c9, c10, c11⟩ := ((unhide HNB).below hbw).2 j n hn
      have HLI := hide (links_in (unhide HS) j n hn)
      clear hbw hn
      set_option maxRecDepth 10000 in
      go_wp2_with (go_at_call 123; refine (inside_six (N := ns.length) (by first | exact heap_alloc_new (wr.alloc _) _ | (have := heap_alloc_new (wr.alloc (.cells #[.int .i64 n.kind, .int .i64 n.space, .string n.name, .slice none 0 0, .string n.data, .string n.system, .int .i64 n.parent, .int .i64 n.first, .int .i64 n.last, .int .i64 n.prev, .int .i64 n.next, .int .i64 n.inner] 37)) (.cells #[.int .i64 n.parent, .int .i64 n.first, .int .i64 n.last, .int .i64 n.prev, .int .i64 n.next, .int .i64 n.inner] 3); rw [World.size_alloc] at this; exact this)) (unhide HLI)).mono ?_; rintro e w3 ⟨rfl, hb3⟩; have HB3 := hide hb3; clear hb3)
      go_roundg (gk - 1)
      case measure => omega
      case rel =>
        have hb2 := ((unhide HBW).alloc (unhide HBW).size (.cells #[.int .i64 n.kind, .int .i64 n.space, .string n.name, .slice none 0 0, .string n.data, .string n.system, .int .i64 n.parent, .int .i64 n.first, .int .i64 n.last, .int .i64 n.prev, .int .i64 n.next, .int .i64 n.inner] 37)).alloc (by have := (unhide HBW).size; simp; omega) (.cells #[.int .i64 n.parent, .int .i64 n.first, .int .i64 n.last, .int .i64 n.prev, .int .i64 n.next, .int .i64 n.inner] 3)
        exact ⟨j + 1, by go_num, by omega, hb2.trans ((unhide HB3).mono hb2.size)⟩
    · have hjz : ¬ (j : Int) < (ns.length : Int) := by omega
      clear hbw
      set_option maxRecDepth 10000 in
      go_wp2
      go_loopg [5, 42] ns.length (fun k _ s42 wx => ∃ (j : Nat), s42 = .int .i64 j ∧ j + k = ns.length ∧ Below w.heap.size w wx)
      case atStart => exact ⟨0, rfl, by omega, unhide HBW⟩
      case round =>
        clear HBW
        obtain ⟨j, rfl, hjk, hbw⟩ := hrel
        have HBW := hide hbw
        by_cases hj : j < ns.length
        · have hjz : (j : Int) < (ns.length : Int) := by omega
          obtain ⟨n, hn⟩ : ∃ n, ns[j]? = some n := ⟨_, List.getElem?_eq_getElem hj⟩
          have H1 : Hid (∀ W, Below w.heap.size w W → Calls Try.prog 124 #[.slice (some ⟨g, 0, none⟩) ns.length cap, .int .i64 j] W fun e w' => e = .returned (.bool true) ∧ Below W.heap.size W w') := hide (fun W hW => kids_all ((unhide HNB).below hW) (unhide HS) j n hn)
          have H2 : Hid (∀ W, Below w.heap.size w W → Calls Try.prog 125 #[.slice (some ⟨g, 0, none⟩) ns.length cap, .int .i64 j] W fun e w' => e = .returned (.bool true) ∧ Below W.heap.size W w') := hide (fun W hW => nbrs_all ((unhide HNB).below hW) (unhide HS) j n hn)
          have H3 : Hid (∀ W, Below w.heap.size w W → Calls Try.prog 126 #[.slice (some ⟨g, 0, none⟩) ns.length cap, .int .i64 j] W fun e w' => e = .returned (.bool true) ∧ Below W.heap.size W w') := hide (fun W hW => contents_all ((unhide HNB).below hW) (unhide HS) (unhide HPS) j n hn)
          clear hbw hn
          set_option maxRecDepth 10000 in
          go_wp2_with (first
            | (go_at_call 124; refine ((unhide H1) _ (unhide HBW)).mono ?_; rintro e w3 ⟨rfl, hb3⟩; have HB3 := hide ((unhide HBW).trans (hb3.mono (unhide HBW).size)); clear hb3)
            | (go_at_call 125; refine ((unhide H2) _ (unhide HB3)).mono ?_; rintro e w4 ⟨rfl, hb4⟩; have HB4 := hide ((unhide HB3).trans (hb4.mono (unhide HB3).size)); clear hb4)
            | (go_at_call 126; refine ((unhide H3) _ (unhide HB4)).mono ?_; rintro e w5 ⟨rfl, hb5⟩; have HB5 := hide ((unhide HB4).trans (hb5.mono (unhide HB4).size)); clear hb5))
          go_roundg (gk - 1)
          case measure => omega
          case rel => exact ⟨j + 1, by go_num, by omega, unhide HB5⟩
        · have hjz : ¬ (j : Int) < (ns.length : Int) := by omega
          clear hbw
          set_option maxRecDepth 10000 in
          go_wp2_with (go_at_call 127; refine (reached_any ((unhide HNB).below (unhide HBW)) (unhide HS) (unhide HM) (fun i n hn => inner_all (unhide HS) i n hn)).mono ?_; rintro e w3 ⟨rfl, hb3⟩; have HB3 := hide ((unhide HBW).trans (hb3.mono (unhide HBW).size)); clear hb3)
          go_ret
          exact ⟨rfl, unhide HB3⟩

theorem sound_any {w : World} {base bA : Nat} {ns : List NodeM} {os : List OneM} {F : Nat → Prop} (h : ArS w base bA ns F) (hs : Sim ns os) (hps : PS os) :
    Calls Try.prog 33 #[.pointer (some ⟨bA, 0, none⟩)] w fun e w' => e = .returned (.bool true) ∧ Below w.heap.size w w' := by
  have hmost : ns.length ≤ 32768 := by obtain ⟨bS, g, cap, har, _⟩ := h; exact har.most
  have HL := hide (linksOf_any h)
  have HS := hide hs
  have HPS := hide hps
  have HM := hide hmost
  clear h hs hps hmost
  go_enter Try.func33, Try.ntmps33
  set_option maxRecDepth 10000 in
  go_wp2_with (first
    | (go_at_call 87; refine (unhide HL).mono ?_; rintro e w1 ⟨g, cap, rfl, hown, hb1⟩; have HO := hide hown; have HB1 := hide hb1; clear hown hb1)
    | (go_at_call 86; refine (links_any (nods_of (unhide HO) (ownsRow_base (unhide HO) rfl).2) (unhide HS) (unhide HPS) (unhide HM)).mono ?_; rintro e w2 ⟨rfl, hb2⟩; have HB2 := hide hb2; clear hb2))
  go_ret
  exact ⟨rfl, (unhide HB1).trans ((unhide HB2).mono (unhide HB1).size)⟩
end Go.Proofs.Ytlbkoafeedlfaaa

namespace Go.Proofs.Ytlbkoafeedlfaaa
open Go.RowKit

set_option maxHeartbeats 2000000 in
theorem sound_walk {w : World} (a : Option Addr) (ca : Nat) (l : List Op3) (hs : Script3 w a l) (hn : l.length ≤ maxLen) :
    Calls Try.prog 10 #[.slice a l.length ca] w fun e w' => e = .returned (.bool true) ∧ Below w.heap.size w w' := by
  have HB1 := hide (build_ps a ca l hs hn)
  clear hs
  go_enter Try.func10, Try.ntmps10
  set_option maxRecDepth 10000 in
  go_wp2_with (first
    | (go_at_call 27; refine (unhide HB1).mono ?_; rintro e w1 ⟨bR1, os1, rfl, hB1, hps⟩; have HW1 := hide (show Below w.heap.size w w1 by obtain ⟨_, _, _, hp⟩ := hB1; exact hp.below); have HSO : Hid (Calls Try.prog 33 #[.pointer (some ⟨w.heap.size + 3, 0, none⟩)] w1 fun e w' => e = .returned (.bool true) ∧ Below w1.heap.size w1 w') := hide (by obtain ⟨_, _, _, p1⟩ := hB1; exact sound_any p1.ar p1.sim hps); clear hB1 hps)
    | (go_at_call 33; refine (unhide HSO).mono ?_; rintro e w3 ⟨rfl, hb3⟩; have HW3 := hide ((unhide HW1).trans (hb3.mono (unhide HW1).size)); clear hb3)
    | (go_at_call 30; refine (awake3_any _).mono ?_; rintro e w5 ⟨rfl, hb5⟩; have HW5 := hide hb5; clear hb5))
  go_ret
  exact ⟨rfl, (unhide HW3).trans ((unhide HW5).mono (unhide HW3).size)⟩
end Go.Proofs.Ytlbkoafeedlfaaa

namespace Go.Proofs.Ytlbkoafeedlfaaa.showSound
open Go.ChangeShapes Go.WideShapes Go.ChangeAt Go.RowKit
open Go.ChangeMaps (open_string shut_string)
set_option linter.unusedVariables false

theorem own : ownKnob Try.prog.godebug = none := by kernel_rfl
theorem laidOut : laidOutB Try.prog = true := by kernel_rfl

set_option maxRecDepth 100000 in
theorem lifted (os : Os) (started : os.Started) (H : Type) (enc : TypeId × Value → H) :
    ReturnsInHanded {} Try.checked os 10 .any (Rows.showSoundSpec.pre6 enc Try.prog Try.f10 Rows.showSoundRow.domain false) (Rows.showSoundSpec.post enc Try.prog Try.f10 false true false false) := by
  refine returnsInHanded_of_change_sized (C := Try.checked) own started (by kernel_rfl) Try.func10
    (ChangeSpec.witness6 (enc := enc) (C := Try.checked) false ⟨#[], #[.slice none 0 0], []⟩ 10 (by kernel_rfl) (by kernel_rfl) (by kernel_rfl) (by kernel_rfl)) ?_
  intro W base args ds gs before hval0 hW hcnd hsz0 _
  have hval : ∀ (j : Nat) t v, Try.f10.params[j]? = some t → args[j]? = some v → Value.okWide Try.prog W .any base t v := hval0
  have hsz : ∀ d, (ds ++ gs)[0]? = some d → (d.weights Try.prog 52).all (· ≤ reachBytes) = true := by
    intro d hd
    refine List.all_eq_true.2 fun n hn => List.all_eq_true.1 hsz0 n ?_
    exact DataW.weights_mem_each (j := 0) (t := 52) (d := d) (by rw [show Try.checked.prog = Try.prog from rfl, Try.params10]; rfl) hd n hn
  have hW' := hW
  obtain ⟨p, q, hA0, hV, rfl, hfz, hnd⟩ := hW
  have hA : DataW.TrodAll enc Try.prog W 0 (fun _ => true) true Try.f10.params.toList args.toList ds p := hA0
  rw [Try.params10] at hA hval
  obtain ⟨v0, vs0, d0, ds0, p0, q0, hargs, rfl, rfl, h0, r0⟩ := trodAll_cons hA
  obtain ⟨rfl, rfl, rfl⟩ := trodAll_nil r0
  obtain rfl : args = #[v0] := by cases args; simp_all
  obtain ⟨rfl, rfl⟩ := trodVars_none hV
  obtain ⟨a0, len0, cap0, rfl⟩ := okWide_slice Try.underlying52 (hval 0 52 v0 rfl rfl)
  have k0 := h0
  have lt0 : ∀ x ∈ p0, x.block < W.heap.size := by obtain ⟨m, hm⟩ := k0; exact DataW.trod_lt m _ _ _ hm
  obtain ⟨l, rfl, hl, hn⟩ := script3_open h0 (hsz d0 rfl)
  clear hA0 hval0
  refine (sound_walk a0 cap0 l hl hn).mono fun e W' ⟨he, bel⟩ => ?_
  subst he
  exact ⟨_, rfl, _, _, _, [], _, [], hW', trodAll_mk1 (shut_bool Try.underlying4 _), (trodAll_cons_mk (Below.trod laidOut (by kernel_rfl) (of_decide_eq_true (by kernel_rfl)) k0 bel lt0) trodAll_mk0), rfl, bel.frame _, fun h => by cases h⟩

theorem over : Rows.showSoundRow.holds Try.pinned (OpenSpec.ofChange Rows.showSoundSpec) :=
  OpenClaim.holds_of_wide 10 Try.f10 rfl rfl rfl rfl rfl rfl rfl ⟨rfl, rfl, rfl, rfl, rfl⟩ rfl rfl rfl rfl rfl (by kernel_rfl) Try.func10 (by kernel_rfl)
    (of_decide_eq_true (by kernel_rfl)) (by unfold Func.isWrapper; first | (rw [if_pos (by decide +kernel)]; kernel_rfl) | (rw [if_neg (by decide +kernel)]; exact ⟨rfl, rfl⟩))
    (fun os started H enc _ => lifted os started H enc)

end Go.Proofs.Ytlbkoafeedlfaaa.showSound
namespace Go.Proofs.Ytlbkoafeedlfaaa
theorem showSound_holds : Rows.ShowSoundSaid := showSound.over
end Go.Proofs.Ytlbkoafeedlfaaa
