/-
  join: two neighbours.
-/
import Derived.Test.YtlbkoafeedlfaaaCMake
namespace Go.Proofs.Ytlbkoafeedlfaaa
open Go.RowKit

def upd (ns : List NodeM) (i : Nat) (f : NodeM → NodeM) : List NodeM := match ns[i]? with | some n => ns.set i (f n) | none => ns

theorem upd_of {ns : List NodeM} {i : Nat} {n : NodeM} (h : ns[i]? = some n) (f : NodeM → NodeM) : upd ns i f = ns.set i (f n) := by simp [upd, h]
theorem upd_len (ns : List NodeM) (i : Nat) (f : NodeM → NodeM) : (upd ns i f).length = ns.length := by unfold upd; split <;> simp
theorem upd_get_same {ns : List NodeM} {i : Nat} {n : NodeM} (h : ns[i]? = some n) (f : NodeM → NodeM) : (upd ns i f)[i]? = some (f n) := by
  rw [upd_of h, List.getElem?_set_self (List.getElem?_eq_some_iff.1 h).1]
theorem upd_get_other (ns : List NodeM) {i j : Nat} (h : i ≠ j) (f : NodeM → NodeM) : (upd ns i f)[j]? = ns[j]? := by
  unfold upd; split
  · rw [List.getElem?_set_ne h]
  · rfl

section
variable {w : World} {base bA bS g cap : Nat} {ns : List NodeM}

theorem Ar.upd (h : Ar w base bA bS g cap ns) {i : Nat} (hi : i < ns.length) (j : Nat) (hj : j < 12) (v : Value) (f : NodeM → NodeM) (hf : ∀ n, (f n).cells = n.cells.set j v ∧ (f n).av = n.av ∧ (f n).attrs = n.attrs) :
    Ar (w.setCell ⟨g, i * 12 + j, none⟩ v) base bA bS g cap (upd ns i f) := by
  have hn : ns[i]? = some ns[i] := List.getElem?_eq_getElem hi
  rw [upd_of hn]
  exact h.set hn j hj v (hf _).1 (hf _).2.1 (hf _).2.2

theorem Ar.there (h : Ar w base bA bS g cap ns) {i : Nat} (hi : i < ns.length) (j : Nat) (hj : j < 12) : ∃ v, w.cell? ⟨g, i * 12 + j, none⟩ = some v := by
  have hn : ns[i]? = some ns[i] := List.getElem?_eq_getElem hi
  rw [h.cell hn j hj]
  exact ⟨_, List.getElem?_eq_getElem (by rw [node_len]; exact hj)⟩
end

def setFirst (b : Int) (n : NodeM) : NodeM := { n with first := b }
def setLast (b : Int) (n : NodeM) : NodeM := { n with last := b }
def setPrev (b : Int) (n : NodeM) : NodeM := { n with prev := b }
def setNext (b : Int) (n : NodeM) : NodeM := { n with next := b }
def setParent (b : Int) (n : NodeM) : NodeM := { n with parent := b }

/-- Is it none, or a node's number? -/
def okK (ns : List NodeM) (k : Int) : Prop := k = -1 ∨ ∃ i : Nat, k = i ∧ i < ns.length

def joinA (ns : List NodeM) (p : Nat) (a b : Int) : List NodeM := if a = -1 then upd ns p (setFirst b) else upd ns a.toNat (setNext b)
def joinB (ns : List NodeM) (p : Nat) (a b : Int) : List NodeM := if b = -1 then upd ns p (setLast a) else upd ns b.toNat (setPrev a)
def joinM (ns : List NodeM) (p : Nat) (a b : Int) : List NodeM := joinB (joinA ns p a b) p a b

theorem joinA_len (ns : List NodeM) (p : Nat) (a b : Int) : (joinA ns p a b).length = ns.length := by unfold joinA; split <;> exact upd_len _ _ _
theorem joinB_len (ns : List NodeM) (p : Nat) (a b : Int) : (joinB ns p a b).length = ns.length := by unfold joinB; split <;> exact upd_len _ _ _
theorem joinM_len (ns : List NodeM) (p : Nat) (a b : Int) : (joinM ns p a b).length = ns.length := by rw [joinM, joinB_len, joinA_len]

set_option maxHeartbeats 1000000 in
theorem join_any {w : World} {base bA bS g cap : Nat} {ns : List NodeM} (h : Ar w base bA bS g cap ns) (p : Nat) (hp : p < ns.length) (a b : Int) (ha : okK ns a) (hb : okK ns b) :
    Calls Try.prog 92 #[.pointer (some ⟨bA, 0, none⟩), .int .i64 p, .int .i64 a, .int .i64 b] w fun e w' => e = .returned (.tuple #[]) ∧ Ar w' base bA bS g cap (joinM ns p a b) ∧ Mod (fun k => k = g) w w' := by
  have hA := h.cA
  have hS := h.cS
  have hm := h.most
  have hfg := h.fg
  rcases ha with rfl | ⟨i, rfl, hi⟩
  · rcases hb with rfl | ⟨j, rfl, hj⟩
    · obtain ⟨v1, hc1⟩ := h.there hp 7 (by omega)
      have h1 := h.upd hp 7 (by omega) (.int .i64 (-1)) (setFirst (-1)) (fun n => ⟨rfl, rfl, rfl⟩)
      have e1 : joinA ns p (-1) (-1) = upd ns p (setFirst (-1)) := by simp [joinA]
      obtain ⟨v2, hc2⟩ := h1.there (i := p) (by rw [upd_len]; exact hp) 8 (by omega)
      have h2 := h1.upd (i := p) (by rw [upd_len]; exact hp) 8 (by omega) (.int .i64 (-1)) (setLast (-1)) (fun n => ⟨rfl, rfl, rfl⟩)
      have e2 : joinM ns p (-1) (-1) = upd (upd ns p (setFirst (-1))) p (setLast (-1)) := by rw [joinM, e1]; simp [joinB]
      rw [e2]
      have HR := hide h2
      clear h1 h2 h e1 e2
      go_enter Try.func92, Try.ntmps92
      go_wp2
      go_end0
      exact ⟨rfl, unhide HR, (Mod.setCell (F := fun k => k = g) w ⟨g, p * 12 + 7, none⟩ _ rfl).trans (Mod.setCell (F := fun k => k = g) _ ⟨g, p * 12 + 8, none⟩ _ rfl)⟩
    · obtain ⟨v1, hc1⟩ := h.there hp 7 (by omega)
      have h1 := h.upd hp 7 (by omega) (.int .i64 j) (setFirst j) (fun n => ⟨rfl, rfl, rfl⟩)
      have e1 : joinA ns p (-1) j = upd ns p (setFirst j) := by simp [joinA]
      obtain ⟨v2, hc2⟩ := h1.there (i := j) (by rw [upd_len]; exact hj) 9 (by omega)
      have h2 := h1.upd (i := j) (by rw [upd_len]; exact hj) 9 (by omega) (.int .i64 (-1)) (setPrev (-1)) (fun n => ⟨rfl, rfl, rfl⟩)
      have e2 : joinM ns p (-1) j = upd (upd ns p (setFirst j)) j (setPrev (-1)) := by rw [joinM, e1]; have : ¬ (j : Int) = -1 := (by omega); simp [joinB, this]
      rw [e2]
      have HR := hide h2
      clear h1 h2 h e1 e2
      have hj1 : ((j : Int) == -1) = false := beq_eq_false_iff_ne.2 (by omega)
      go_enter Try.func92, Try.ntmps92
      go_wp2
      go_end0
      exact ⟨rfl, unhide HR, (Mod.setCell (F := fun k => k = g) w ⟨g, p * 12 + 7, none⟩ _ rfl).trans (Mod.setCell (F := fun k => k = g) _ ⟨g, j * 12 + 9, none⟩ _ rfl)⟩
  · rcases hb with rfl | ⟨j, rfl, hj⟩
    · obtain ⟨v1, hc1⟩ := h.there hi 10 (by omega)
      have h1 := h.upd hi 10 (by omega) (.int .i64 (-1)) (setNext (-1)) (fun n => ⟨rfl, rfl, rfl⟩)
      have e1 : joinA ns p i (-1) = upd ns i (setNext (-1)) := by have : ¬ (i : Int) = -1 := (by omega); simp [joinA, this]
      obtain ⟨v2, hc2⟩ := h1.there (i := p) (by rw [upd_len]; exact hp) 8 (by omega)
      have h2 := h1.upd (i := p) (by rw [upd_len]; exact hp) 8 (by omega) (.int .i64 i) (setLast i) (fun n => ⟨rfl, rfl, rfl⟩)
      have e2 : joinM ns p i (-1) = upd (upd ns i (setNext (-1))) p (setLast i) := by rw [joinM, e1]; simp [joinB]
      rw [e2]
      have HR := hide h2
      clear h1 h2 h e1 e2
      have hi1 : ((i : Int) == -1) = false := beq_eq_false_iff_ne.2 (by omega)
      go_enter Try.func92, Try.ntmps92
      go_wp2
      go_end0
      exact ⟨rfl, unhide HR, (Mod.setCell (F := fun k => k = g) w ⟨g, i * 12 + 10, none⟩ _ rfl).trans (Mod.setCell (F := fun k => k = g) _ ⟨g, p * 12 + 8, none⟩ _ rfl)⟩
    · obtain ⟨v1, hc1⟩ := h.there hi 10 (by omega)
      have h1 := h.upd hi 10 (by omega) (.int .i64 j) (setNext j) (fun n => ⟨rfl, rfl, rfl⟩)
      have e1 : joinA ns p i j = upd ns i (setNext j) := by have : ¬ (i : Int) = -1 := (by omega); simp [joinA, this]
      obtain ⟨v2, hc2⟩ := h1.there (i := j) (by rw [upd_len]; exact hj) 9 (by omega)
      have h2 := h1.upd (i := j) (by rw [upd_len]; exact hj) 9 (by omega) (.int .i64 i) (setPrev i) (fun n => ⟨rfl, rfl, rfl⟩)
      have e2 : joinM ns p i j = upd (upd ns i (setNext j)) j (setPrev i) := by rw [joinM, e1]; have : ¬ (j : Int) = -1 := (by omega); simp [joinB, this]
      rw [e2]
      have HR := hide h2
      clear h1 h2 h e1 e2
      have hi1 : ((i : Int) == -1) = false := beq_eq_false_iff_ne.2 (by omega)
      have hj1 : ((j : Int) == -1) = false := beq_eq_false_iff_ne.2 (by omega)
      go_enter Try.func92, Try.ntmps92
      go_wp2
      go_end0
      exact ⟨rfl, unhide HR, (Mod.setCell (F := fun k => k = g) w ⟨g, i * 12 + 10, none⟩ _ rfl).trans (Mod.setCell (F := fun k => k = g) _ ⟨g, j * 12 + 9, none⟩ _ rfl)⟩
end Go.Proofs.Ytlbkoafeedlfaaa
