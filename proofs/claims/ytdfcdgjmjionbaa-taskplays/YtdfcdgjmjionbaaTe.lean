/-
  A queue in memory; made, Len, Ready.
-/
import Derived.Test.YtdfcdgjmjionbaaTd
namespace Go.Proofs.Ytdfcdgjmjionbaa
open Go.RowKit Go.Lib

def ptrV (p : Nat) : Value := .pointer (some ⟨p, 0, none⟩)
def chanV (c : Nat) : Value := .chan (some c)
/-- A task in a box of its own. -/
def BoxIn (w : World) (F : Nat → Prop) (p : Nat) (t : Tk) : Prop := F p ∧ ∃ x : TkV, w.heap[p]? = some (.cells x.cells 34 (0, 0)) ∧ TkIn w F t x
/-- What waits in a line. -/
structure LineIn (w : World) (F : Nat → Prop) (c : Nat) (l : List Tk) : Prop where
  own : F c
  most : l.length ≤ 4096
  lies : ∃ (ps : List Nat) (s r : Nat), w.heap[c]? = some (.chan 4096 (ps.map ptrV).toArray false s r false) ∧ ps.length = l.length ∧ ∀ (j p : Nat) t, ps[j]? = some p → l[j]? = some t → BoxIn w F p t
/-- No channel twice. -/
def Apart (cs : List Nat) : Prop := ∀ (i j c : Nat), cs[i]? = some c → cs[j]? = some c → i = j
/-- A queue: what waits of each source. -/
structure QueS (w : World) (base bq : Nat) (qs : List (List Tk)) (F : Nat → Prop) : Prop where
  lt : ∀ k, F k → base ≤ k ∧ k < w.heap.size
  own : F bq
  len : qs.length = 4
  lies : ∃ cs : List Nat, cs.length = 4 ∧ Apart cs ∧ w.heap[bq]? = some (.cells (cs.map chanV).toArray 56 (0, 0)) ∧ ∀ (i c : Nat) l, cs[i]? = some c → qs[i]? = some l → LineIn w F c l

section
variable {w w' : World} {F G : Nat → Prop} {base bq p c : Nat} {t : Tk} {l : List Tk} {qs : List (List Tk)}
theorem BoxIn.mod (h : BoxIn w F p t) (hm : Mod G w w') (hd : ∀ k, F k → ¬ G k) : BoxIn w' F p t := by
  obtain ⟨h0, x, h1, h2⟩ := h
  exact ⟨h0, x, (hm.block p (lt_of_block h1) (hd p h0)).trans h1, h2.mod hm hd⟩
theorem BoxIn.mono (h : BoxIn w F p t) (hFG : ∀ k, k < w.heap.size → F k → G k) : BoxIn w G p t := by
  obtain ⟨h0, x, h1, h2⟩ := h
  exact ⟨hFG p (lt_of_block h1) h0, x, h1, h2.mono hFG⟩
theorem LineIn.mod (h : LineIn w F c l) (hm : Mod G w w') (hd : ∀ k, F k → ¬ G k) : LineIn w' F c l := by
  obtain ⟨h0, h1, ps, s, r, h2, h3, h4⟩ := h
  exact ⟨h0, h1, ps, s, r, (hm.block c (lt_of_block h2) (hd c h0)).trans h2, h3, fun j p t hj ht => (h4 j p t hj ht).mod hm hd⟩
theorem LineIn.mono (h : LineIn w F c l) (hFG : ∀ k, k < w.heap.size → F k → G k) : LineIn w G c l := by
  obtain ⟨h0, h1, ps, s, r, h2, h3, h4⟩ := h
  exact ⟨hFG c (lt_of_block h2) h0, h1, ps, s, r, h2, h3, fun j p t hj ht => (h4 j p t hj ht).mono hFG⟩
theorem QueS.mod (h : QueS w base bq qs F) (hm : Mod G w w') (hd : ∀ k, F k → ¬ G k) : QueS w' base bq qs F := by
  obtain ⟨h0, h1, h2, cs, h3, h4, h5, h6⟩ := h
  exact ⟨fun k hk => ⟨(h0 k hk).1, Nat.lt_of_lt_of_le (h0 k hk).2 hm.size⟩, h1, h2, cs, h3, h4, (hm.block bq (lt_of_block h5) (hd bq h1)).trans h5, fun i c l hi hl => (h6 i c l hi hl).mod hm hd⟩
theorem QueS.below (h : QueS w base bq qs F) (hb : Below w.heap.size w w') : QueS w' base bq qs F := h.mod (G := fun _ => False) (Mod.of_below hb) (fun _ _ e => e)

/-! Where a channel alone was written. -/
end
theorem chan_cell {w : World} {c cap : Nat} {buf : Array Value} {cl : Bool} {s r : Nat} {tm : Bool} (hc : w.heap[c]? = some (.chan cap buf cl s r tm)) {b off : Nat} {u : Value} (h : w.cell? ⟨b, off, none⟩ = some u) : b ≠ c := by
  rintro rfl
  simp [World.cell?, hc] at h
section
variable {w w' : World} {F G : Nat → Prop} {p c cap s r : Nat} {buf : Array Value} {cl tm : Bool} {t : Tk} {x : TkV} {l : List Value} {a : Option Addr}
theorem RowIn.chan (h : RowIn w F a l) (hc : w.heap[c]? = some (.chan cap buf cl s r tm)) (hm : Mod (· = c) w w') : RowIn w' F a l := by
  intro j u hj
  obtain ⟨b, off, e, hF, hu⟩ := h j u hj
  exact ⟨b, off, e, hF, by rw [World.cell?_of_block (hm.block b (World.block_lt_of_cell? w _ hu) (chan_cell hc hu))]; exact hu⟩
theorem TkIn.chan (h : TkIn w F t x) (hc : w.heap[c]? = some (.chan cap buf cl s r tm)) (hm : Mod (· = c) w w') : TkIn w' F t x := ⟨h.what, h.bl, h.al, h.bs.chan hc hm, h.as_.chan hc hm, h.bsz, h.asz⟩
theorem BoxIn.chan (h : BoxIn w F p t) (hc : w.heap[c]? = some (.chan cap buf cl s r tm)) (hm : Mod (· = c) w w') : BoxIn w' F p t := by
  obtain ⟨h0, x, h1, h2⟩ := h
  refine ⟨h0, x, (hm.block p (lt_of_block h1) ?_).trans h1, h2.chan hc hm⟩
  rintro rfl
  rw [hc] at h1
  cases h1
theorem LineIn.other {d : Nat} {k : List Tk} (h : LineIn w F d k) (hd : d ≠ c) (hc : w.heap[c]? = some (.chan cap buf cl s r tm)) (hm : Mod (· = c) w w') : LineIn w' F d k := by
  obtain ⟨h0, h1, ps, s, r, h2, h3, h4⟩ := h
  exact ⟨h0, h1, ps, s, r, (hm.block d (lt_of_block h2) hd).trans h2, h3, fun j p t hj ht => (h4 j p t hj ht).chan hc hm⟩
end

/-- Of an empty queue, of one of another kind. -/
theorem made_nil (w : World) : Calls Try.prog 24 #[.pointer none] w fun e w' => e = .returned (.bool false) ∧ Below w.heap.size w w' := by
  go_enter Try.func24, Try.ntmps24
  go_wp2
  go_ret
  exact ⟨rfl, Below.refl _ _⟩
theorem made_any (bq : Nat) (c : Option Nat) (w : World) (h : w.cell? ⟨bq, 0, none⟩ = some (.chan c)) : Calls Try.prog 24 #[.pointer (some ⟨bq, 0, none⟩)] w fun e w' => e = .returned (.bool c.isSome) ∧ Below w.heap.size w w' := by
  have HM := hide (lineMade_any c w)
  go_enter Try.func24, Try.ntmps24
  go_wp2_with (go_at_call 30; go_must (refine (unhide HM).mono ?_); rintro e w1 ⟨rfl, hb⟩; have HB := hide hb; clear hb)
  go_ret
  exact ⟨rfl, unhide HB⟩
end Go.Proofs.Ytdfcdgjmjionbaa
