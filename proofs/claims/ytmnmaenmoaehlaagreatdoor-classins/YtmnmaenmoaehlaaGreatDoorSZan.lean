/-
  
-/
import Derived.Test.YtmnmaenmoaehlaaGreatDoorSZab
import Derived.Test.YtmnmaenmoaehlaaGreatDoorSZad
import Derived.Test.YtmnmaenmoaehlaaGreatDoorSZaa
import Derived.RangeFuncNested
import Derived.RangeFuncBound
import Derived.RangeFuncCalls
import Derived.RangeFuncLeaves
import Derived.Shelf.RegionOpen
import Derived.OwnWalkIn
import Derived.TacticsInMore
import Derived.LoopNIn
import Derived.LoopIn
import Derived.Test.YtmnmaenmoaehlaaGreatDoorSZac
import Derived.Deep.RegionWith
namespace Go.Proofs.YtmnmaenmoaehlaaGreatDoor
open Go.RowKit

def upd (ns : List NodeM) (i : Nat) (f : NodeM → NodeM) : List NodeM := match ns[i]? with | some n => ns.set i (f n) | none => ns

theorem upd_of {ns : List NodeM} {i : Nat} {n : NodeM} (h : ns[i]? = some n) (f : NodeM → NodeM) : upd ns i f = ns.set i (f n) := by simp [upd, h]
theorem upd_len (ns : List NodeM) (i : Nat) (f : NodeM → NodeM) : (upd ns i f).length = ns.length := by unfold upd; split <;> simp
theorem upd_get_same {ns : List NodeM} {i : Nat} {n : NodeM} (h : ns[i]? = some n) (f : NodeM → NodeM) : (upd ns i f)[i]? = some (f n) := by
  rw [upd_of h, List.getElem?_set_self (List.getElem?_eq_some_iff.1 h).1]
theorem upd_get_other (ns : List NodeM) {i j : Nat} (h : i ≠ j) (f : NodeM → NodeM) : (upd ns i f)[j]? = ns[j]? := by
  unfold upd; split
  · rw [List.getElem?_set_ne h]
  · rfl

section
variable {w : World} {base bA bS g cap : Nat} {ns : List NodeM}

theorem Ar.upd (h : Ar w base bA bS g cap ns) {i : Nat} (hi : i < ns.length) (j : Nat) (hj : j < 12) (v : Value) (f : NodeM → NodeM) (hf : ∀ n, (f n).cells = n.cells.set j v ∧ (f n).av = n.av ∧ (f n).attrs = n.attrs) :
    Ar (w.setCell ⟨g, i * 12 + j, none⟩ v) base bA bS g cap (upd ns i f) := by
  have hn : ns[i]? = some ns[i] := List.getElem?_eq_getElem hi
  rw [upd_of hn]
  exact h.set hn j hj v (hf _).1 (hf _).2.1 (hf _).2.2

theorem Ar.there (h : Ar w base bA bS g cap ns) {i : Nat} (hi : i < ns.length) (j : Nat) (hj : j < 12) : ∃ v, w.cell? ⟨g, i * 12 + j, none⟩ = some v := by
  have hn : ns[i]? = some ns[i] := List.getElem?_eq_getElem hi
  rw [h.cell hn j hj]
  exact ⟨_, List.getElem?_eq_getElem (by rw [node_len]; exact hj)⟩
end

def setFirst (b : Int) (n : NodeM) : NodeM := { n with first := b }
def setLast (b : Int) (n : NodeM) : NodeM := { n with last := b }
def setPrev (b : Int) (n : NodeM) : NodeM := { n with prev := b }
def setNext (b : Int) (n : NodeM) : NodeM := { n with next := b }
def setParent (b : Int) (n : NodeM) : NodeM := { n with parent := b }

/-- Is it none, or a node's number? -/
def okK (ns : List NodeM) (k : Int) : Prop := k = -1 ∨ ∃ i : Nat, k = i ∧ i < ns.length

def joinA (ns : List NodeM) (p : Nat) (a b : Int) : List NodeM := if a = -1 then upd ns p (setFirst b) else upd ns a.toNat (setNext b)
def joinB (ns : List NodeM) (p : Nat) (a b : Int) : List NodeM := if b = -1 then upd ns p (setLast a) else upd ns b.toNat (setPrev a)
def joinM (ns : List NodeM) (p : Nat) (a b : Int) : List NodeM := joinB (joinA ns p a b) p a b

theorem joinA_len (ns : List NodeM) (p : Nat) (a b : Int) : (joinA ns p a b).length = ns.length := by unfold joinA; split <;> exact upd_len _ _ _
theorem joinB_len (ns : List NodeM) (p : Nat) (a b : Int) : (joinB ns p a b).length = ns.length := by unfold joinB; split <;> exact upd_len _ _ _
theorem joinM_len (ns : List NodeM) (p : Nat) (a b : Int) : (joinM ns p a b).length = ns.length := by rw [joinM, joinB_len, joinA_len]

set_option maxHeartbeats 1000000 in
theorem join_any {w : World} {base bA bS g cap : Nat} {ns : List NodeM} (h : Ar w base bA bS g cap ns) (p : Nat) (hp : p < ns.length) (a b : Int) (ha : okK ns a) (hb : okK ns b) :
    Calls Tryz.prog 41 #[.pointer (some ⟨bA, 0, none⟩), .int .i64 p, .int .i64 a, .int .i64 b] w fun e w' => e = .returned (.tuple #[]) ∧ Ar w' base bA bS g cap (joinM ns p a b) ∧ Mod (fun k => k = g) w w' := by
  have hA := h.cA
  have hS := h.cS
  have hm := h.most
  have hfg := h.fg
  rcases ha with rfl | ⟨i, rfl, hi⟩
  · rcases hb with rfl | ⟨j, rfl, hj⟩
    · obtain ⟨v1, hc1⟩ := h.there hp 7 (by omega)
      have h1 := h.upd hp 7 (by omega) (.int .i64 (-1)) (setFirst (-1)) (fun n => ⟨rfl, rfl, rfl⟩)
      have e1 : joinA ns p (-1) (-1) = upd ns p (setFirst (-1)) := by simp [joinA]
      obtain ⟨v2, hc2⟩ := h1.there (i := p) (by rw [upd_len]; exact hp) 8 (by omega)
      have h2 := h1.upd (i := p) (by rw [upd_len]; exact hp) 8 (by omega) (.int .i64 (-1)) (setLast (-1)) (fun n => ⟨rfl, rfl, rfl⟩)
      have e2 : joinM ns p (-1) (-1) = upd (upd ns p (setFirst (-1))) p (setLast (-1)) := by rw [joinM, e1]; simp [joinB]
      rw [e2]
      have HR := hide h2
      clear h1 h2 h e1 e2
      go_enter Tryz.func41, Tryz.ntmps41
      go_wp2
      go_end0
      exact ⟨rfl, unhide HR, (Mod.setCell (F := fun k => k = g) w ⟨g, p * 12 + 7, none⟩ _ rfl).trans (Mod.setCell (F := fun k => k = g) _ ⟨g, p * 12 + 8, none⟩ _ rfl)⟩
    · obtain ⟨v1, hc1⟩ := h.there hp 7 (by omega)
      have h1 := h.upd hp 7 (by omega) (.int .i64 j) (setFirst j) (fun n => ⟨rfl, rfl, rfl⟩)
      have e1 : joinA ns p (-1) j = upd ns p (setFirst j) := by simp [joinA]
      obtain ⟨v2, hc2⟩ := h1.there (i := j) (by rw [upd_len]; exact hj) 9 (by omega)
      have h2 := h1.upd (i := j) (by rw [upd_len]; exact hj) 9 (by omega) (.int .i64 (-1)) (setPrev (-1)) (fun n => ⟨rfl, rfl, rfl⟩)
      have e2 : joinM ns p (-1) j = upd (upd ns p (setFirst j)) j (setPrev (-1)) := by rw [joinM, e1]; have : ¬ (j : Int) = -1 := (by omega); simp [joinB, this]
      rw [e2]
      have HR := hide h2
      clear h1 h2 h e1 e2
      have hj1 : ((j : Int) == -1) = false := beq_eq_false_iff_ne.2 (by omega)
      go_enter Tryz.func41, Tryz.ntmps41
      go_wp2
      go_end0
      exact ⟨rfl, unhide HR, (Mod.setCell (F := fun k => k = g) w ⟨g, p * 12 + 7, none⟩ _ rfl).trans (Mod.setCell (F := fun k => k = g) _ ⟨g, j * 12 + 9, none⟩ _ rfl)⟩
  · rcases hb with rfl | ⟨j, rfl, hj⟩
    · obtain ⟨v1, hc1⟩ := h.there hi 10 (by omega)
      have h1 := h.upd hi 10 (by omega) (.int .i64 (-1)) (setNext (-1)) (fun n => ⟨rfl, rfl, rfl⟩)
      have e1 : joinA ns p i (-1) = upd ns i (setNext (-1)) := by have : ¬ (i : Int) = -1 := (by omega); simp [joinA, this]
      obtain ⟨v2, hc2⟩ := h1.there (i := p) (by rw [upd_len]; exact hp) 8 (by omega)
      have h2 := h1.upd (i := p) (by rw [upd_len]; exact hp) 8 (by omega) (.int .i64 i) (setLast i) (fun n => ⟨rfl, rfl, rfl⟩)
      have e2 : joinM ns p i (-1) = upd (upd ns i (setNext (-1))) p (setLast i) := by rw [joinM, e1]; simp [joinB]
      rw [e2]
      have HR := hide h2
      clear h1 h2 h e1 e2
      have hi1 : ((i : Int) == -1) = false := beq_eq_false_iff_ne.2 (by omega)
      go_enter Tryz.func41, Tryz.ntmps41
      go_wp2
      go_end0
      exact ⟨rfl, unhide HR, (Mod.setCell (F := fun k => k = g) w ⟨g, i * 12 + 10, none⟩ _ rfl).trans (Mod.setCell (F := fun k => k = g) _ ⟨g, p * 12 + 8, none⟩ _ rfl)⟩
    · obtain ⟨v1, hc1⟩ := h.there hi 10 (by omega)
      have h1 := h.upd hi 10 (by omega) (.int .i64 j) (setNext j) (fun n => ⟨rfl, rfl, rfl⟩)
      have e1 : joinA ns p i j = upd ns i (setNext j) := by have : ¬ (i : Int) = -1 := (by omega); simp [joinA, this]
      obtain ⟨v2, hc2⟩ := h1.there (i := j) (by rw [upd_len]; exact hj) 9 (by omega)
      have h2 := h1.upd (i := j) (by rw [upd_len]; exact hj) 9 (by omega) (.int .i64 i) (setPrev i) (fun n => ⟨rfl, rfl, rfl⟩)
      have e2 : joinM ns p i j = upd (upd ns i (setNext j)) j (setPrev i) := by rw [joinM, e1]; have : ¬ (j : Int) = -1 := (by omega); simp [joinB, this]
      rw [e2]
      have HR := hide h2
      clear h1 h2 h e1 e2
      have hi1 : ((i : Int) == -1) = false := beq_eq_false_iff_ne.2 (by omega)
      have hj1 : ((j : Int) == -1) = false := beq_eq_false_iff_ne.2 (by omega)
      go_enter Tryz.func41, Tryz.ntmps41
      go_wp2
      go_end0
      exact ⟨rfl, unhide HR, (Mod.setCell (F := fun k => k = g) w ⟨g, i * 12 + 10, none⟩ _ rfl).trans (Mod.setCell (F := fun k => k = g) _ ⟨g, j * 12 + 9, none⟩ _ rfl)⟩
end Go.Proofs.YtmnmaenmoaehlaaGreatDoor
/-
  Of package node: Comment, SetData.
-/
namespace Go.Proofs.YtmnmaenmoaehlaaGreatDoor
open Go.RowKit

theorem comment_any {w : World} {base bA : Nat} {ns : List NodeM} {F : Nat → Prop} (h : ArS w base bA ns F) (s : ByteArray) :
    Calls Tryz.prog 18 #[.pointer (some ⟨bA, 0, none⟩), .string s] w fun e w' =>
      e = .returned (.tuple #[.int .i64 (dataR ns 3 s).2.1, .int .i64 (dataR ns 3 s).2.2]) ∧ Upd F w w' base bA (dataR ns 3 s).1 := by
  have HC := hide (addData_any h 3 s)
  generalize dataR ns 3 s = r at *
  clear h
  go_enter Tryz.func18, Tryz.ntmps18
  go_wp2_with (go_at_call 45; refine (unhide HC).mono ?_; rintro e w' ⟨rfl, hu⟩)
  go_ret2
  exact ⟨rfl, hu⟩

def setDat (s : ByteArray) (n : NodeM) : NodeM := { n with data := s }

end Go.Proofs.YtmnmaenmoaehlaaGreatDoor
/-
  Of package node: isParent, Host, over.
-/
namespace Go.Proofs.YtmnmaenmoaehlaaGreatDoor
open Go.RowKit

section
variable {w : World} {base bA bS g cap : Nat} {ns : List NodeM}
def parentM (k : Int) : Bool := k == 0 || k == 1 || k == 5

theorem isParent_any (k : Int) : Calls Tryz.prog 66 #[.int .i64 k] w fun e w' => e = .returned (.bool (parentM k)) ∧ w = w' := by
  go_enter Tryz.func66, Tryz.ntmps66
  go_wp2
  all_goals go_ret
  all_goals refine ⟨?_, rfl⟩
  all_goals simp [parentM, *]

def hostM (ns : List NodeM) (k : Int) : Int := if 0 < k ∧ k < ns.length ∧ (ns[k.toNat - 1]?).map (·.inner) = some k then k - 1 else -1

theorem host_any (h : Ar w base bA bS g cap ns) (k : Int) : Calls Tryz.prog 133 #[.pointer (some ⟨bA, 0, none⟩), .int .i64 k] w fun e w' => e = .returned (.int .i64 (hostM ns k)) ∧ w = w' := by
  have hA := h.cA
  have hS := h.cS
  have hn := h.most
  by_cases h1 : 0 < k
  · by_cases h2 : k < ns.length
    · have hlt : k.toNat - 1 < ns.length := by omega
      obtain ⟨n, hi⟩ : ∃ n, ns[k.toNat - 1]? = some n := ⟨_, List.getElem?_eq_getElem hlt⟩
      have hc := (h.cells12 hi).2.2.2.2.2.2.2.2.2.2.2
      have hM : hostM ns k = if n.inner = k then k - 1 else -1 := by simp [hostM, h1, h2, hi]
      rw [hM]
      clear hM hi h
      have hlt2 : k - 1 < ns.length := by omega
      by_cases h3 : n.inner = k
      · have h4 : (n.inner != k) = false := by simp [h3]
        go_enter Tryz.func133, Tryz.ntmps133
        go_wp2
        go_ret
        exact ⟨rfl, rfl⟩
      · have h4 : (n.inner != k) = true := by simp [h3]
        go_enter Tryz.func133, Tryz.ntmps133
        go_wp2
        go_ret
        exact ⟨rfl, rfl⟩
    · have hM : hostM ns k = -1 := by simp [hostM, h2]
      rw [hM]
      clear hM h
      go_enter Tryz.func133, Tryz.ntmps133
      go_wp2
      go_ret
      exact ⟨rfl, rfl⟩
  · have hM : hostM ns k = -1 := by simp [hostM, h1]
    rw [hM]
    clear hM h
    go_enter Tryz.func133, Tryz.ntmps133
    go_wp2
    go_ret
    exact ⟨rfl, rfl⟩

/-- What is right above node i. -/
def overM (ns : List NodeM) (i : Nat) (n : NodeM) : Int := if n.kind = 5 then hostM ns i else n.parent

theorem over_any (h : Ar w base bA bS g cap ns) (i : Nat) (n : NodeM) (hi : ns[i]? = some n) :
    Calls Tryz.prog 119 #[.pointer (some ⟨bA, 0, none⟩), .int .i64 i] w fun e w' => e = .returned (.int .i64 (overM ns i n)) ∧ w = w' := by
  have hlt : i < ns.length := (List.getElem?_eq_some_iff.1 hi).1
  have hA := h.cA
  have hS := h.cS
  have hn := h.most
  have hc0 := (h.cells12 hi).1
  have hc6 := (h.cells12 hi).2.2.2.2.2.2.1
  have hh := host_any h i
  by_cases h5 : n.kind = 5
  · have h4 : (n.kind == 5) = true := by simp [h5]
    have hM : overM ns i n = hostM ns i := by simp [overM, h5]
    rw [hM]
    clear hM h5 h hi hc6
    go_enter Tryz.func119, Tryz.ntmps119
    go_wp2_with (go_at_call 133; refine hh.mono ?_; rintro e w' ⟨rfl, rfl⟩)
    go_ret
    exact ⟨rfl, rfl⟩
  · have h4 : (n.kind == 5) = false := by simp [h5]
    have hM : overM ns i n = n.parent := by simp [overM, h5]
    rw [hM]
    clear hM h5 h hi hh
    go_enter Tryz.func119, Tryz.ntmps119
    go_wp2
    go_ret
    exact ⟨rfl, rfl⟩

end
end Go.Proofs.YtmnmaenmoaehlaaGreatDoor
/-
  Above: a range over a function that goes upward.
-/
namespace Go.Proofs.YtmnmaenmoaehlaaGreatDoor
open Go.RowKit Go.Shelf
attribute [local go_sem] Oper.semAt_some

/-- The numbers that one comes to from k on, a step each, till there is none. -/
def PathOf (f : Nat → Option Int) : Int → List Nat → Prop
  | k, [] => k = -1
  | k, i :: r => k = i ∧ ∃ m, f i = some m ∧ PathOf f m r

/-- How many steps there are, at most so many. -/
def pathLen (f : Nat → Option Int) : Nat → Int → Nat
  | 0, _ => 0
  | c + 1, k => if k < 0 then 0 else match f k.toNat with | none => 0 | some m => 1 + pathLen f c m

theorem pathLen_eq {f : Nat → Option Int} : ∀ {rest : List Nat} {k : Int} (c : Nat), PathOf f k rest → rest.length ≤ c → pathLen f c k = rest.length
  | [], k, c, h, _ => by
    have : k = -1 := h
    subst this
    cases c <;> simp [pathLen]
  | i :: r, k, 0, _, hc => by simp at hc
  | i :: r, k, c + 1, h, hc => by
    obtain ⟨rfl, m, hm, hr⟩ := h
    have hlt : ¬ ((i : Int) < 0) := by omega
    simp only [pathLen, hlt, if_false, Int.toNat_natCast, hm]
    rw [pathLen_eq c hr (by simpa using hc)]
    simp; omega

/-- The blocks of P lie as they lay. -/
def KeepP (P : Nat → Prop) (W W' : World) : Prop := ∀ k, P k → W'.heap[k]? = W.heap[k]?

theorem Ar.keepP {w w' : World} {base bA bS g cap : Nat} {ns : List NodeM} {P : Nat → Prop} (h : Ar w base bA bS g cap ns) (hP : ∀ k, foot bA bS g ns k → P k) (hk : KeepP P w w') : Ar w' base bA bS g cap ns :=
  h.same fun k hf => hk k (hP k hf)

def upF (ns : List NodeM) (i : Nat) : Option Int := (ns[i]?).map (overM ns i)

set_option maxRecDepth 100000 in
set_option maxHeartbeats 1000000 in
theorem up1_in {base bA bS g cap : Nat} {ns : List NodeM} (n : Nat) (hn : 1 ≤ n) (l Bi Ba : Nat) (P : Nat → Prop) (hPf : ∀ k, foot bA bS g ns k → P k) (hPa : P Ba) (path : List Nat) (k0 : Int) (J Jx : List Nat → World → Prop)
    (hY : ∀ pre x W, J pre W → pre.length < path.length → YieldAt Fence.wide (n - 1) Tryz.prog l #[.int .i64 ((x : Nat) : Int)] W fun e W' =>
      (e = .returned (.bool true) ∧ J (pre ++ [x]) W' ∧ KeepP P W W') ∨ (e = .returned (.bool false) ∧ Jx (pre ++ [x]) W'))
    (W : World) (hBi : W.cell? ⟨Bi, 0, none⟩ = some (.int .i64 k0)) (hBa : W.heap[Ba]? = some (.cells #[.pointer (some ⟨bA, 0, none⟩)] 24 (0, 0))) (har : Ar W base bA bS g cap ns)
    (hpath : PathOf (upF ns) k0 path) (h0 : J [] W) :
    CallsIn Fence.wide n Tryz.prog 118 #[.func (.yield l) #[] #[], .pointer (some ⟨Bi, 0, none⟩), .pointer (some ⟨Ba, 0, none⟩)] W fun e W' => (∃ v, e = .returned v) ∧
      ((∃ ys, ys = path ∧ J ys W') ∨ (∃ pre, pre <+: path ∧ Jx pre W')) := by
  refine callsIn_of_wp Tryz.func118 rfl trivial ?_ rfl
  simp only [Tryz.ntmps118, List.size_toArray, List.length_cons, List.length_nil, Nat.reduceAdd, Nat.reduceSub, Array.replicate_succ, Array.replicate_zero, List.push_toArray, List.append_toArray, List.nil_append, List.cons_append]
  gi_wp2
  gi_loopw [4] (fun p wr => ∃ (pre rest : List Nat) (q : Int), p = .int .i64 q ∧ path = pre ++ rest ∧ PathOf (upF ns) q rest ∧ J pre wr ∧ Ar wr base bA bS g cap ns ∧ wr.heap[Ba]? = some (.cells #[.pointer (some ⟨bA, 0, none⟩)] 24 (0, 0)))
    (fun p _ => pathLen (upF ns) path.length (intOf p))
  case atStart =>
    exact ⟨[], path, k0, rfl, rfl, hpath, h0, har, hBa⟩
  case round =>
    obtain ⟨pre, rest, q, rfl, hx, hl, hJs, harr, hBar⟩ := hrel
    have hcB := cell_of_one hBar
    cases rest with
    | nil =>
      obtain rfl : q = -1 := hl
      gi_wp2
      refine ⟨fun _ _ => trivial, ?_⟩
      gi_wp2
      go_end0
      exact ⟨⟨_, rfl⟩, .inl ⟨pre, by simp [hx], hJs⟩⟩
    | cons x rest =>
      have hl' := hl
      obtain ⟨rfl, m, hm, hr⟩ := hl
      obtain ⟨nd, hnd, rfl⟩ : ∃ nd, ns[x]? = some nd ∧ overM ns x nd = m := by simpa [upF] using hm
      obtain ⟨fn, tmps, assign, body, hy, hR⟩ := hY pre x wr hJs (by rw [hx]; simp)
      have hq : ((x : Int) != -1) = true := by rw [bne_iff_ne]; omega
      have HX := hide hx
      have HL := hide hl'
      have HR := hide hr
      have HA := hide harr
      have HB := hide hBar
      have HN := hide hnd
      clear hx hl' hr harr hBar hnd hm har hBa hpath hcB
      gi_wp2
      refine hR.mono ?_
      rintro e W3 (⟨rfl, hJ3, hk3⟩ | ⟨rfl, hJx3⟩)
      · have har3 := (unhide HA).keepP hPf hk3
        have hB3 := (hk3 Ba hPa).trans (unhide HB)
        have hc3 := cell_of_one hB3
        have HO := hide (over_any har3 x nd (unhide HN))
        have HA3 := hide har3
        have HB3 := hide hB3
        clear har3 hB3
        gi_wp2
        refine ⟨trivial, (callsIn_wide.2 (unhide HO)).mono ?_⟩
        rintro e w' ⟨rfl, rfl⟩
        gi_wp2
        go_roundw
        case rel => exact ⟨pre ++ [x], rest, _, rfl, by simp [unhide HX], unhide HR, hJ3, unhide HA3, unhide HB3⟩
        case measure =>
          have e1 := unhide HX
          have h1 := pathLen_eq path.length (unhide HR) (by rw [e1]; simp; omega)
          have h2 := pathLen_eq path.length (unhide HL) (by rw [e1]; simp)
          simp only [intOf]
          rw [h1, h2]; simp
      · gi_wp2
        go_end0
        exact ⟨⟨_, rfl⟩, .inr ⟨pre ++ [x], ⟨rest, by simp [unhide HX]⟩, hJx3⟩⟩
end Go.Proofs.YtmnmaenmoaehlaaGreatDoor
/-
  Above: is other id, or above it.
-/
namespace Go.Proofs.YtmnmaenmoaehlaaGreatDoor
open Go.RowKit Go.Shelf
attribute [local go_sem] Oper.semAt_some

theorem upward_in (n : Nat) (p : Value) (hp : p.oneCell' = true) (k : Int) (w : World) (q : Option Addr) (hq : p = .pointer q) :
    CallsIn Fence.wide n Tryz.prog 108 #[p, .int .i64 k] w fun e w' => e = .returned (.func (.func 118) #[] #[.pointer (some ⟨w.heap.size + 1, 0, none⟩), .pointer (some ⟨w.heap.size, 0, none⟩)]) ∧
      w' = (w.alloc (.cells #[p] 24)).alloc (.cells #[.int .i64 k] 3) := by
  subst hq
  refine callsIn_of_wp Tryz.func108 rfl trivial ?_ rfl
  simp only [Tryz.ntmps108, List.size_toArray, List.length_cons, List.length_nil, Nat.reduceAdd, Nat.reduceSub, Array.replicate_succ, Array.replicate_zero, List.push_toArray, List.append_toArray, List.nil_append, List.cons_append]
  gi_wp2
  go_ret
  exact ⟨rfl, rfl⟩

theorem up_stops {base bA bS g cap : Nat} {ns : List NodeM} (n : Nat) (hn : 1 ≤ n) (Bi Ba : Nat) (P : Nat → Prop) (hPf : ∀ k, foot bA bS g ns k → P k) (hPa : P Ba) (path : List Nat) (k0 : Int)
    (w : World) (hBi : w.cell? ⟨Bi, 0, none⟩ = some (.int .i64 k0)) (hBa : w.heap[Ba]? = some (.cells #[.pointer (some ⟨bA, 0, none⟩)] 24 (0, 0))) (har : Ar w base bA bS g cap ns) (hpath : PathOf (upF ns) k0 path) :
    SeqStopsK Fence.wide n Tryz.prog 118 #[.pointer (some ⟨Bi, 0, none⟩), .pointer (some ⟨Ba, 0, none⟩)] (fun x : Nat => #[Value.int .i64 (x : Int)]) (KeepP P) (fun ys => ys = path) (fun pre => pre <+: path) path.length w := fun l J Jx W hW _ _ hY h0 =>
  up1_in n hn l Bi Ba P hPf hPa path k0 J Jx hY W ((hW.cell (p := ⟨Bi, 0, none⟩) (World.block_lt_of_cell? w _ hBi)).trans hBi) ((hW.block Ba (lt_of_block hBa)).trans hBa) (har.below hW) hpath h0

theorem cell_of_box_l {W : World} {B : Nat} {v : Value} {t : TypeId} (h : W.heap[B]? = some (.cells #[v] t (0, 0))) : W.cell? ⟨B, 0, none⟩ = some v ∧ W.frozen? ⟨B, 0, none⟩ = false := by
  constructor <;> simp [World.cell?, World.frozen?, h]
theorem cell_new_l (W : World) (v : Value) (t : TypeId) : (W.alloc (.cells #[v] t)).cell? ⟨W.heap.size, 0, none⟩ = some v ∧ (W.alloc (.cells #[v] t)).frozen? ⟨W.heap.size, 0, none⟩ = false :=
  cell_of_box_l (World.alloc_heap_new W _)
theorem cell_alloc_l {W : World} {a : Addr} {v : Value} (o : Obj) (h : W.cell? a = some v) : (W.alloc o).cell? a = some v := cell_kept h (World.grownBy_alloc W o none) (fun r e => by cases e)
theorem frozen_alloc_l {W : World} {a : Addr} {v : Value} (o : Obj) (h : W.cell? a = some v) (hf : W.frozen? a = false) : (W.alloc o).frozen? a = false := (frozen_kept h (World.grownBy_alloc W o none) (fun r e => by cases e)).trans hf

theorem path_lt {ns : List NodeM} : ∀ {path : List Nat} {k : Int}, PathOf (upF ns) k path → ∀ x ∈ path, x < ns.length
  | [], _, _, x, hx => by simp at hx
  | i :: r, k, h, x, hx => by
    obtain ⟨rfl, m, hm, hr⟩ := h
    rcases List.mem_cons.1 hx with rfl | hx
    · obtain ⟨nd, hnd, _⟩ : ∃ nd, ns[x]? = some nd ∧ overM ns x nd = m := by simpa [upF] using hm
      exact (List.getElem?_eq_some_iff.1 hnd).1
    · exact path_lt hr x hx

def inPath (path : List Nat) (other : Int) : Bool := path.any fun x => (x : Int) == other

theorem keepP_t {P : Nat → Prop} {A B C : World} (h : KeepP P A B) (k : KeepP P B C) : KeepP P A C := fun i hi => (k i hi).trans (h i hi)
theorem keepP_b {P : Nat → Prop} {w : World} (hP : ∀ k, P k → k < w.heap.size) (W : World) (l : Nat) (o o' : Obj) (hl : w.heap.size ≤ l) (_ : W.heap[l]? = some o) (_ : o.isCells = false) (_ : o.isWalk = false) : KeepP P W (W.putObj l o') := by
  intro k hk
  have := hP k hk
  have hne : l ≠ k := by omega
  simp [World.putObj, hne]

set_option maxRecDepth 100000 in
set_option maxHeartbeats 2000000 in
theorem above_in {w : World} {base bA bS g cap : Nat} {ns : List NodeM} (h : Ar w base bA bS g cap ns) (i : Nat) (hi : i < ns.length) (other : Int) (ho : 0 ≤ other ∧ other < ns.length) (path : List Nat) (hpath : PathOf (upF ns) i path) :
    CallsIn Fence.wide 4 Tryz.prog 89 #[.pointer (some ⟨bA, 0, none⟩), .int .i64 i, .int .i64 other] w fun e w' => e = .returned (.bool (inPath path other)) ∧ Below w.heap.size w w' := by
  have h2 := (h.alloc (.cells #[.int .i64 other] 3)).alloc (.cells #[.bool false] 4)
  have HH1 := hide (has_any h2 i)
  have HH2 := hide (has_any h2 other)
  have e1 : hasM ns i = true := by simp [hasM, hi]
  have e2 : hasM ns other = true := by simp [hasM, ho]
  rw [e1] at HH1
  rw [e2] at HH2
  have HA := hide h
  have HP := hide hpath
  clear e1 e2 h2 h hpath
  refine callsIn_of_wp_marks Tryz.func89 rfl trivial ?_ rfl
  simp only [Tryz.ntmps89, List.size_toArray, List.length_cons, List.length_nil, Nat.reduceAdd, Nat.reduceSub, Array.replicate_succ, Array.replicate_zero, List.push_toArray, List.append_toArray, List.nil_append, List.cons_append]
  gi_wp2_with fail
  refine ⟨trivial, (callsIn_wide.2 (unhide HH1)).mono ?_⟩
  rintro e w' ⟨rfl, rfl⟩
  gi_wp2_with fail
  refine ⟨trivial, (callsIn_wide.2 (unhide HH2)).mono ?_⟩
  rintro e w' ⟨rfl, rfl⟩
  gi_wp2_with fail
  refine ⟨trivial, (upward_in _ _ rfl _ _ _ rfl).mono ?_⟩
  rintro e w' ⟨rfl, rfl⟩
  gi_wp2_with fail
  have c0 := cell_new_l w (.int .i64 other) 3
  have c1 := cell_new_l (w.alloc (.cells #[.int .i64 other] 3)) (.bool false) 4
  have c3 := cell_new_l (((w.alloc (.cells #[.int .i64 other] 3)).alloc (.cells #[.bool false] 4)).alloc (.cells #[.pointer (some ⟨bA, 0, none⟩)] 24)) (.int .i64 i) 3
  simp only [World.size_alloc] at c1 c3
  have hBa : ((((w.alloc (.cells #[.int .i64 other] 3)).alloc (.cells #[.bool false] 4)).alloc (.cells #[.pointer (some ⟨bA, 0, none⟩)] 24)).alloc (.cells #[.int .i64 i] 3)).heap[w.heap.size + 1 + 1]? = some (.cells #[.pointer (some ⟨bA, 0, none⟩)] 24 (0, 0)) := by
    rw [Below.heap_alloc _ _ _ (by simp)]
    exact last_block _ _ _ (by simp)
  have har4 := (((unhide HA).alloc (.cells #[.int .i64 other] 3)).alloc (.cells #[.bool false] 4)).alloc (.cells #[.pointer (some ⟨bA, 0, none⟩)] 24) |>.alloc (.cells #[.int .i64 i] 3)
  have hB0 : Below w.heap.size w ((((w.alloc (.cells #[.int .i64 other] 3)).alloc (.cells #[.bool false] 4)).alloc (.cells #[.pointer (some ⟨bA, 0, none⟩)] 24)).alloc (.cells #[.int .i64 i] 3)) :=
    ((((Below.refl _ w).alloc (Nat.le_refl _) _).alloc (by simp) _).alloc (by simp; omega) _).alloc (by simp; omega) _
  have hPf : ∀ k, foot bA bS g ns k → (k < w.heap.size ∨ k = w.heap.size + 1 + 1) := fun k hk => .inl ((unhide HA).foot_lt hk).2
  have path0 := unhide HP
  refine wpIn_rangeFunc_ownF (w0 := ((((w.alloc (.cells #[.int .i64 other] 3)).alloc (.cells #[.bool false] 4)).alloc (.cells #[.pointer (some ⟨bA, 0, none⟩)] 24)).alloc (.cells #[.int .i64 i] 3))) rfl (by omega) (gf := 118) (lb := #[.pointer (some ⟨w.heap.size + 1 + 1 + 1, 0, none⟩), .pointer (some ⟨w.heap.size + 1 + 1, 0, none⟩)]) rfl trivial (enters_of Tryz.func118 (by kernel_rfl) rfl)
    (up_stops 3 (by omega) (w.heap.size + 1 + 1 + 1) (w.heap.size + 1 + 1) (fun k => k < w.heap.size ∨ k = w.heap.size + 1 + 1) hPf (.inr rfl) path i _ c3.1 hBa har4 path0) keepP_t (keepP_b (by intro k hk; simp; omega)) (Below.refl _ _) (fun _ => rfl)
    (fun pre W => ((∀ y ∈ pre, ((y : Nat) : Int) ≠ other) ∧ W.cell? ⟨w.heap.size, 0, none⟩ = some (.int .i64 other) ∧ W.cell? ⟨w.heap.size + 1, 0, none⟩ = some (.bool false) ∧ W.frozen? ⟨w.heap.size + 1, 0, none⟩ = false) ∧ Below w.heap.size w W)
    (fun c pre W => (c = .ret ∧ (∃ y ∈ pre, ((y : Nat) : Int) = other) ∧ W.cell? ⟨w.heap.size + 1, 0, none⟩ = some (.bool true)) ∧ Below w.heap.size w W)
    (OwnFrom.and (Own.from (fun s A B row hs hg hr => ⟨hs.1, cell_kept hs.2.1 hg hr, cell_kept hs.2.2.1 hg hr, (frozen_kept hs.2.2.1 hg hr).trans hs.2.2.2⟩) _) (ownFrom_below (Nat.le_refl _) (by simp; omega)))
    (fun c => OwnFrom.and (Own.from (fun s A B row hs hg hr => ⟨hs.1, hs.2.1, cell_kept hs.2.2 hg hr⟩) _) (ownFrom_below (Nat.le_refl _) (by simp; omega)))
    ⟨⟨by simp, cell_alloc_l _ (cell_alloc_l _ (cell_alloc_l _ c0.1)), cell_alloc_l _ (cell_alloc_l _ c1.1), frozen_alloc_l _ (cell_alloc_l _ c1.1) (frozen_alloc_l _ c1.1 c1.2)⟩, hB0⟩
    (fun x => { tmps := #[.pointer (some ⟨bA, 0, none⟩), .int .i64 i, .int .i64 other, undef, undef, .pointer (some ⟨w.heap.size, 0, none⟩), .pointer (some ⟨w.heap.size + 1, 0, none⟩), .int .i64 x, .pointer (some ⟨bA, 0, none⟩), .int .i64 i, .bool true, .bool false, .bool false, .pointer (some ⟨bA, 0, none⟩), .int .i64 other, .bool true, .bool false, .bool false, .pointer (some ⟨bA, 0, none⟩), .int .i64 i, .func (.func 118) #[] #[.pointer (some ⟨w.heap.size + 1 + 1 + 1, 0, none⟩), .pointer (some ⟨w.heap.size + 1 + 1, 0, none⟩)], .int .i64 x, undef, undef, undef], defers := [] }) ?assign ?body ?done ?stop
  case assign =>
    intro l x W K hK
    gi_wp2
    exact hK
  case body =>
    rintro l pre x W ⟨⟨hp, hcw, hcr, hfr⟩, hB⟩ _
    clear c0 c1 c3 hBa har4 hB0 hPf path0
    gi_wp2
    · rename_i hx
      have hx' : (x : Int) = other := eq_of_beq hx
      exact ⟨KeepsOthers.setCell _ _ _, ⟨rfl, ⟨x, List.mem_append.2 (.inr (by simp)), hx'⟩, World.cell?_setCell_same' _ _ _ (by rw [hcr]; rfl)⟩, hB.setCell (p := ⟨w.heap.size + 1, 0, none⟩) (by simp) _⟩
    · rename_i hx
      exact ⟨KeepsOthers.refl _, fun _ _ => rfl, ⟨fun y hy => (List.mem_append.1 hy).elim (hp y) (fun e e' => by simp at e; subst e; simp [e'] at hx), hcw, hcr, hfr⟩, hB⟩
  case done =>
    rintro D ys W hD rfl ⟨⟨hne, _, hcr, hfr⟩, hB⟩ hK
    clear c0 c1 c3 hBa har4 hB0 hPf path0
    gi_wp2
    have hK' := (KeepsOthers.setCell W ⟨w.heap.size + 1, 0, none⟩ (.bool false)).same D _ hK rfl
    refine ⟨by simp, .inl ⟨_, _, rfl, run_takeDeferred hK', ?_⟩⟩
    have hc5 := cell_kept (World.cell?_setCell_same' W ⟨w.heap.size + 1, 0, none⟩ (.bool false) (by rw [hcr]; rfl)) (grownBy_putObj' _ D (.deferred none)) (fun r e => by cases e; exact ⟨_, hK', rfl⟩)
    have hno : inPath ys other = false := by simp [inPath]; exact fun y hy => hne y hy
    refine ⟨.bool false, ?_, by rw [hno], (hB.setCell (p := ⟨w.heap.size + 1, 0, none⟩) (by simp) _).trans (belowK_b (w := w) (Nat.le_refl _) _ D _ _ (by simp at hD; omega) hK' rfl rfl)⟩
    simp [results, Tryz.results89, go_sem, hc5]
  case stop =>
    rintro D c pre W hD hpre ⟨⟨rfl, ⟨y, hy, hyo⟩, hcr⟩, hB⟩ hK
    clear c0 c1 c3 hBa har4 hB0 hPf path0
    gi_wp2
    refine ⟨by simp, .inl ⟨_, _, rfl, run_takeDeferred hK, ?_⟩⟩
    have hc5 := cell_kept hcr (grownBy_putObj' _ D (.deferred none)) (fun r e => by cases e; exact ⟨_, hK, rfl⟩)
    have hyes : inPath path other = true := List.any_eq_true.2 ⟨y, hpre.subset hy, by simpa using hyo⟩
    refine ⟨.bool true, ?_, by rw [hyes], hB.trans (belowK_b (w := w) (Nat.le_refl _) W D _ _ (by simp at hD; omega) hK rfl rfl)⟩
    simp [results, Tryz.results89, go_sem, hc5]
end Go.Proofs.YtmnmaenmoaehlaaGreatDoor
/-
  Above at all numbers; covers; whether a link may be made.
-/
namespace Go.Proofs.YtmnmaenmoaehlaaGreatDoor
open Go.RowKit

set_option maxHeartbeats 1000000 in
theorem above_no {w : World} {base bA bS g cap : Nat} {ns : List NodeM} (h : Ar w base bA bS g cap ns) (id other : Int) (hno : (hasM ns id && hasM ns other) = false) :
    Calls Tryz.prog 89 #[.pointer (some ⟨bA, 0, none⟩), .int .i64 id, .int .i64 other] w fun e w' => e = .returned (.bool false) ∧ Below w.heap.size w w' := by
  have h2 := (h.alloc (.cells #[.int .i64 other] 3)).alloc (.cells #[.bool false] 4)
  have HB := hide (((Below.refl _ w).alloc (Nat.le_refl _) (.cells #[.int .i64 other] 3)).alloc (by simp) (.cells #[.bool false] 4))
  have HH1 := hide (has_any h2 id)
  have HH2 := hide (has_any h2 other)
  clear h2 h
  cases hi : hasM ns id with
  | false =>
    rw [hi] at HH1
    clear hno
    go_enter Tryz.func89, Tryz.ntmps89
    go_wp2_with (go_at_call 46; refine (unhide HH1).mono ?_; rintro e w' ⟨rfl, rfl⟩)
    exact bodyPost_ret (v := .bool false) (by simp [results, Tryz.results89, go_sem]) rfl ⟨rfl, unhide HB⟩
  | true =>
    have ho : hasM ns other = false := by simpa [hi] using hno
    rw [hi] at HH1
    rw [ho] at HH2
    clear hno hi ho
    go_enter Tryz.func89, Tryz.ntmps89
    go_wp2_with fail
    refine (unhide HH1).mono ?_
    rintro e w' ⟨rfl, rfl⟩
    go_wp2_with fail
    refine (unhide HH2).mono ?_
    rintro e w' ⟨rfl, rfl⟩
    go_wp2
    exact bodyPost_ret (v := .bool false) (by simp [results, Tryz.results89, go_sem]) rfl ⟨rfl, unhide HB⟩

theorem above_yes {w : World} {base bA bS g cap : Nat} {ns : List NodeM} (h : Ar w base bA bS g cap ns) (i : Nat) (hi : i < ns.length) (other : Int) (path : List Nat) (hpath : PathOf (upF ns) i path) :
    Calls Tryz.prog 89 #[.pointer (some ⟨bA, 0, none⟩), .int .i64 i, .int .i64 other] w fun e w' => e = .returned (.bool (inPath path other)) ∧ Below w.heap.size w w' := by
  by_cases ho : 0 ≤ other ∧ other < ns.length
  · exact callsIn_wide.1 (above_in h i hi other ho path hpath)
  · have e : inPath path other = false := by
      simp only [inPath, List.any_eq_false]
      intro x hx e
      have h1 := path_lt hpath x hx
      have h2 : (x : Int) = other := by simpa using e
      omega
    rw [e]
    exact above_no h i other (by simp [hasM, hi]; omega)

def coversM (i : Nat) (n : NodeM) (p : Nat) (path : List Nat) : Bool := if n.first = -1 ∧ n.inner = -1 then i == p else inPath path i

set_option maxHeartbeats 1000000 in
theorem covers_any {w : World} {base bA bS g cap : Nat} {ns : List NodeM} (h : Ar w base bA bS g cap ns) (i : Nat) (n : NodeM) (hi : ns[i]? = some n) (p : Nat) (hp : p < ns.length) (path : List Nat) (hpath : PathOf (upF ns) p path) :
    Calls Tryz.prog 67 #[.pointer (some ⟨bA, 0, none⟩), .int .i64 i, .int .i64 p] w fun e w' => e = .returned (.bool (coversM i n p path)) ∧ Below w.heap.size w w' := by
  have hlt : i < ns.length := (List.getElem?_eq_some_iff.1 hi).1
  have hm := h.most
  obtain ⟨c0, c1, c2, c3, c4, c5, c6, c7, c8, c9, c10, c11⟩ := h.cells12 hi
  obtain ⟨ao, co, hav, _⟩ : ∃ a c, n.av = .slice a n.attrs.length c ∧ True := by
    rcases (h.attrs i n hi).2 with ⟨e, h0⟩ | ⟨g', cap', cur, e, _⟩
    · exact ⟨Option.none, 0, by rw [e, h0], trivial⟩
    · exact ⟨_, _, e, trivial⟩
  rw [hav] at c3
  have hA := h.cA
  have hS := h.cS
  have HA := hide (above_yes (h.alloc (.cells #[.int .i64 n.kind, .int .i64 n.space, .string n.name, .slice ao n.attrs.length co, .string n.data, .string n.system, .int .i64 n.parent, .int .i64 n.first, .int .i64 n.last, .int .i64 n.prev, .int .i64 n.next, .int .i64 n.inner] 51)) p hp i path hpath)
  have HB := hide ((Below.refl _ w).alloc (Nat.le_refl _) (.cells #[.int .i64 n.kind, .int .i64 n.space, .string n.name, .slice ao n.attrs.length co, .string n.data, .string n.system, .int .i64 n.parent, .int .i64 n.first, .int .i64 n.last, .int .i64 n.prev, .int .i64 n.next, .int .i64 n.inner] 51))
  clear h hi hpath hav
  by_cases h1 : n.first = -1
  · by_cases h2 : n.inner = -1
    · have e : coversM i n p path = ((i : Int) == (p : Int)) := by
        simp only [coversM, h1, h2, and_self, if_true]
        rw [Bool.eq_iff_iff]; simp; omega
      rw [e]
      have f1 : (n.first == -1) = true := by simp [h1]
      have f2 : (n.inner == -1) = true := by simp [h2]
      clear e h1 h2 HA
      go_enter Tryz.func67, Tryz.ntmps67
      go_wp2
      go_ret
      exact ⟨rfl, unhide HB⟩
    · have e : coversM i n p path = inPath path i := by simp [coversM, h2]
      rw [e]
      have f1 : (n.first == -1) = true := by simp [h1]
      have f2 : (n.inner == -1) = false := by simp [h2]
      clear e h1 h2
      go_enter Tryz.func67, Tryz.ntmps67
      go_wp2_with (go_at_call 89; refine (unhide HA).mono ?_; rintro e w' ⟨rfl, hb⟩)
      go_ret
      exact ⟨rfl, (unhide HB).trans (hb.mono (by simp))⟩
  · have e : coversM i n p path = inPath path i := by simp [coversM, h1]
    rw [e]
    have f1 : (n.first == -1) = false := by simp [h1]
    clear e h1
    go_enter Tryz.func67, Tryz.ntmps67
    go_wp2_with (go_at_call 89; refine (unhide HA).mono ?_; rintro e w' ⟨rfl, hb⟩)
    go_ret
    exact ⟨rfl, (unhide HB).trans (hb.mono (by simp))⟩

/-- The cells of a copied node. -/
def copyCells (n : NodeM) (ao : Option Addr) (co : Nat) : Array Value := #[.int .i64 n.kind, .int .i64 n.space, .string n.name, .slice ao n.attrs.length co, .string n.data, .string n.system, .int .i64 n.parent, .int .i64 n.first, .int .i64 n.last, .int .i64 n.prev, .int .i64 n.next, .int .i64 n.inner]

theorem av_form {w : World} {base bA bS g cap : Nat} {ns : List NodeM} (h : Ar w base bA bS g cap ns) {i : Nat} {n : NodeM} (hi : ns[i]? = some n) : ∃ a c, n.av = .slice a n.attrs.length c := by
  rcases (h.attrs i n hi).2 with ⟨e, h0⟩ | ⟨g', cap', cur, e, _⟩
  · exact ⟨Option.none, 0, by rw [e, h0]⟩
  · exact ⟨_, _, e⟩

set_option maxHeartbeats 2000000 in
/-- One of the three is no node. -/
theorem mayLink_none {w : World} {base bA bS g cap : Nat} {ns : List NodeM} (h : Ar w base bA bS g cap ns) (p c b : Int) (hno : (hasM ns p && hasM ns c && (b == -1 || hasM ns b)) = false) :
    Calls Tryz.prog 40 #[.pointer (some ⟨bA, 0, none⟩), .int .i64 p, .int .i64 c, .int .i64 b] w fun e w' => e = .returned (.int .i64 6) ∧ w = w' := by
  have HM := hide (made_yes h)
  have HH := hide (fun k => has_any h k)
  clear h
  cases hp : hasM ns p with
  | false =>
    go_enter Tryz.func40, Tryz.ntmps40
    go_wp2_with (first
      | (go_at_call 32; refine (unhide HM).mono ?_; rintro e w' ⟨rfl, rfl⟩)
      | (go_at_call 46; refine (unhide HH _).mono ?_; rintro e w' ⟨rfl, rfl⟩))
    go_ret
    exact ⟨rfl, rfl⟩
  | true =>
    cases hc : hasM ns c with
    | false =>
      go_enter Tryz.func40, Tryz.ntmps40
      go_wp2_with (first
        | (go_at_call 32; refine (unhide HM).mono ?_; rintro e w' ⟨rfl, rfl⟩)
        | (go_at_call 46; refine (unhide HH _).mono ?_; rintro e w' ⟨rfl, rfl⟩))
      go_ret
      exact ⟨rfl, rfl⟩
    | true =>
      have h1 : (b == -1) = false ∧ hasM ns b = false := by simpa [hp, hc] using hno
      obtain ⟨h1, h2⟩ := h1
      have h1' : (b != -1) = true := by simpa using h1
      go_enter Tryz.func40, Tryz.ntmps40
      go_wp2_with (first
        | (go_at_call 32; refine (unhide HM).mono ?_; rintro e w' ⟨rfl, rfl⟩)
        | (go_at_call 46; refine (unhide HH _).mono ?_; rintro e w' ⟨rfl, rfl⟩))
      go_ret
      exact ⟨rfl, rfl⟩

/-- What is asked of two nodes that are there: a kind that can't be; a link that can't be; a place that can't be. -/
def mayM (ns : List NodeM) (p : Nat) (np : NodeM) (c : Nat) (nc : NodeM) (b : Int) (path : List Nat) : Int :=
  if parentM np.kind = false ∨ nc.kind = 0 ∨ nc.kind = 5 then 10
  else if nc.parent ≠ -1 ∨ coversM c nc p path = true then 11
  else if b ≠ -1 ∧ (ns[b.toNat]?).map (·.parent) ≠ some (p : Int) then 1 else 0
end Go.Proofs.YtmnmaenmoaehlaaGreatDoor
/-
  mayLink at nodes that are there; Link.
-/
namespace Go.Proofs.YtmnmaenmoaehlaaGreatDoor
open Go.RowKit

set_option maxHeartbeats 4000000 in
theorem mayLink_in {w : World} {base bA bS g cap : Nat} {ns : List NodeM} (h : Ar w base bA bS g cap ns) (p : Nat) (np : NodeM) (hp : ns[p]? = some np) (c : Nat) (nc : NodeM) (hc : ns[c]? = some nc) (b : Int) (hb : okK ns b)
    (path : List Nat) (hpath : PathOf (upF ns) p path) :
    Calls Tryz.prog 40 #[.pointer (some ⟨bA, 0, none⟩), .int .i64 p, .int .i64 c, .int .i64 b] w fun e w' => e = .returned (.int .i64 (mayM ns p np c nc b path)) ∧ Below w.heap.size w w' := by
  have lp : p < ns.length := (List.getElem?_eq_some_iff.1 hp).1
  have lc : c < ns.length := (List.getElem?_eq_some_iff.1 hc).1
  have hm := h.most
  have HM := hide (made_yes h)
  have HH := hide (fun k => has_any h k)
  have q1 : hasM ns p = true := by simp [hasM, lp]
  have q2 : hasM ns c = true := by simp [hasM, lc]
  obtain ⟨ao, co, hav⟩ := av_form h hc
  have h1 := h.alloc (.cells (copyCells nc ao co) 51)
  have HP := hide (isParent_any (w := w.alloc (.cells (copyCells nc ao co) 51)) np.kind)
  have HC := hide (covers_any h1 c nc hc p lp path hpath)
  have HB := hide ((Below.refl _ w).alloc (Nat.le_refl _) (.cells (copyCells nc ao co) 51))
  obtain ⟨c0, c1, c2, c3, c4, c5, c6, c7, c8, c9, c10, c11⟩ := h.cells12 hc
  rw [hav] at c3
  have d0 := (h.cells12 hp).1
  have hA := h.cA
  have hS := h.cS
  have ltg := h.lt.2.2
  have ltS := h.lt.2.1
  have ltA := h.lt.1
  unfold copyCells at HP HC HB
  have HAR := hide h
  clear h h1 hav hp hc hpath
  rcases hb with rfl | ⟨ib, rfl, lb⟩
  · have fb : ((-1 : Int) != -1) = false := rfl
    cases k1 : parentM np.kind with
    | false =>
      have e : mayM ns p np c nc (-1) path = 10 := by simp [mayM, k1]
      rw [e]
      rw [k1] at HP
      clear e k1 HC
      go_enter Tryz.func40, Tryz.ntmps40
      go_wp2_with (first
        | (go_at_call 32; refine (unhide HM).mono ?_; rintro e w' ⟨rfl, rfl⟩)
        | (go_at_call 46; refine (unhide HH _).mono ?_; rintro e w' ⟨rfl, rfl⟩)
        | (go_at_call 66; refine (unhide HP).mono ?_; rintro e w' ⟨rfl, rfl⟩)
        | (go_at_call 67; refine (unhide HC).mono ?_; rintro e w2 ⟨rfl, hb2⟩; have HB2 := hide hb2;  clear hb2))
      go_ret
      exact ⟨rfl, unhide HB⟩
    | true =>
      rw [k1] at HP
      by_cases k2 : nc.kind = 0
      · have e : mayM ns p np c nc (-1) path = 10 := by simp [mayM, k2]
        rw [e]
        have f2 : (nc.kind == 0) = true := by simp [k2]
        clear e k1 k2 HC
        go_enter Tryz.func40, Tryz.ntmps40
        go_wp2_with (first
          | (go_at_call 32; refine (unhide HM).mono ?_; rintro e w' ⟨rfl, rfl⟩)
          | (go_at_call 46; refine (unhide HH _).mono ?_; rintro e w' ⟨rfl, rfl⟩)
          | (go_at_call 66; refine (unhide HP).mono ?_; rintro e w' ⟨rfl, rfl⟩)
          | (go_at_call 67; refine (unhide HC).mono ?_; rintro e w2 ⟨rfl, hb2⟩; have HB2 := hide hb2;  clear hb2))
        go_ret
        exact ⟨rfl, unhide HB⟩
      · have f2 : (nc.kind == 0) = false := by simp [k2]
        by_cases k3 : nc.kind = 5
        · have e : mayM ns p np c nc (-1) path = 10 := by simp [mayM, k3]
          rw [e]
          have f3 : (nc.kind == 5) = true := by simp [k3]
          clear e k1 k2 k3 HC
          go_enter Tryz.func40, Tryz.ntmps40
          go_wp2_with (first
            | (go_at_call 32; refine (unhide HM).mono ?_; rintro e w' ⟨rfl, rfl⟩)
            | (go_at_call 46; refine (unhide HH _).mono ?_; rintro e w' ⟨rfl, rfl⟩)
            | (go_at_call 66; refine (unhide HP).mono ?_; rintro e w' ⟨rfl, rfl⟩)
            | (go_at_call 67; refine (unhide HC).mono ?_; rintro e w2 ⟨rfl, hb2⟩; have HB2 := hide hb2;  clear hb2))
          go_ret
          exact ⟨rfl, unhide HB⟩
        · have f3 : (nc.kind == 5) = false := by simp [k3]
          by_cases k4 : nc.parent = -1
          · have f4 : (nc.parent != -1) = false := by simp [k4]
            cases k5 : coversM c nc p path with
            | true =>
              have e : mayM ns p np c nc (-1) path = 11 := by simp [mayM, k1, k2, k3, k5]
              rw [e]
              rw [k5] at HC
              clear e k1 k2 k3 k4 k5
              go_enter Tryz.func40, Tryz.ntmps40
              go_wp2_with (first
                | (go_at_call 32; refine (unhide HM).mono ?_; rintro e w' ⟨rfl, rfl⟩)
                | (go_at_call 46; refine (unhide HH _).mono ?_; rintro e w' ⟨rfl, rfl⟩)
                | (go_at_call 66; refine (unhide HP).mono ?_; rintro e w' ⟨rfl, rfl⟩)
                | (go_at_call 67; refine (unhide HC).mono ?_; rintro e w2 ⟨rfl, hb2⟩; have HB2 := hide hb2;  clear hb2))
              go_ret
              exact ⟨rfl, (unhide HB).trans ((unhide HB2).mono (by simp))⟩
            | false =>
              have e : mayM ns p np c nc (-1) path = 0 := by simp [mayM, k1, k2, k3, k4, k5]
              rw [e]
              rw [k5] at HC
              clear e k1 k2 k3 k4 k5
              go_enter Tryz.func40, Tryz.ntmps40
              go_wp2_with (first
                | (go_at_call 32; refine (unhide HM).mono ?_; rintro e w' ⟨rfl, rfl⟩)
                | (go_at_call 46; refine (unhide HH _).mono ?_; rintro e w' ⟨rfl, rfl⟩)
                | (go_at_call 66; refine (unhide HP).mono ?_; rintro e w' ⟨rfl, rfl⟩)
                | (go_at_call 67; refine (unhide HC).mono ?_; rintro e w2 ⟨rfl, hb2⟩; have HB2 := hide hb2;  clear hb2))
              go_ret
              exact ⟨rfl, (unhide HB).trans ((unhide HB2).mono (by simp))⟩
          · have f4 : (nc.parent != -1) = true := by simp [k4]
            have e : mayM ns p np c nc (-1) path = 11 := by simp [mayM, k1, k2, k3, k4]
            rw [e]
            clear e k1 k2 k3 k4 HC
            go_enter Tryz.func40, Tryz.ntmps40
            go_wp2_with (first
              | (go_at_call 32; refine (unhide HM).mono ?_; rintro e w' ⟨rfl, rfl⟩)
              | (go_at_call 46; refine (unhide HH _).mono ?_; rintro e w' ⟨rfl, rfl⟩)
              | (go_at_call 66; refine (unhide HP).mono ?_; rintro e w' ⟨rfl, rfl⟩)
              | (go_at_call 67; refine (unhide HC).mono ?_; rintro e w2 ⟨rfl, hb2⟩; have HB2 := hide hb2;  clear hb2))
            go_ret
            exact ⟨rfl, unhide HB⟩
  · have fb : ((ib : Int) != -1) = true := by rw [bne_iff_ne]; omega
    have q3 : hasM ns ib = true := by simp [hasM, lb]
    cases k1 : parentM np.kind with
    | false =>
      have e : mayM ns p np c nc ib path = 10 := by simp [mayM, k1]
      rw [e]
      rw [k1] at HP
      clear e k1 HC
      go_enter Tryz.func40, Tryz.ntmps40
      go_wp2_with (first
        | (go_at_call 32; refine (unhide HM).mono ?_; rintro e w' ⟨rfl, rfl⟩)
        | (go_at_call 46; refine (unhide HH _).mono ?_; rintro e w' ⟨rfl, rfl⟩)
        | (go_at_call 66; refine (unhide HP).mono ?_; rintro e w' ⟨rfl, rfl⟩)
        | (go_at_call 67; refine (unhide HC).mono ?_; rintro e w2 ⟨rfl, hb2⟩; have HB2 := hide hb2;  clear hb2))
      go_ret
      exact ⟨rfl, unhide HB⟩
    | true =>
      rw [k1] at HP
      by_cases k2 : nc.kind = 0
      · have e : mayM ns p np c nc ib path = 10 := by simp [mayM, k2]
        rw [e]
        have f2 : (nc.kind == 0) = true := by simp [k2]
        clear e k1 k2 HC
        go_enter Tryz.func40, Tryz.ntmps40
        go_wp2_with (first
          | (go_at_call 32; refine (unhide HM).mono ?_; rintro e w' ⟨rfl, rfl⟩)
          | (go_at_call 46; refine (unhide HH _).mono ?_; rintro e w' ⟨rfl, rfl⟩)
          | (go_at_call 66; refine (unhide HP).mono ?_; rintro e w' ⟨rfl, rfl⟩)
          | (go_at_call 67; refine (unhide HC).mono ?_; rintro e w2 ⟨rfl, hb2⟩; have HB2 := hide hb2;  clear hb2))
        go_ret
        exact ⟨rfl, unhide HB⟩
      · have f2 : (nc.kind == 0) = false := by simp [k2]
        by_cases k3 : nc.kind = 5
        · have e : mayM ns p np c nc ib path = 10 := by simp [mayM, k3]
          rw [e]
          have f3 : (nc.kind == 5) = true := by simp [k3]
          clear e k1 k2 k3 HC
          go_enter Tryz.func40, Tryz.ntmps40
          go_wp2_with (first
            | (go_at_call 32; refine (unhide HM).mono ?_; rintro e w' ⟨rfl, rfl⟩)
            | (go_at_call 46; refine (unhide HH _).mono ?_; rintro e w' ⟨rfl, rfl⟩)
            | (go_at_call 66; refine (unhide HP).mono ?_; rintro e w' ⟨rfl, rfl⟩)
            | (go_at_call 67; refine (unhide HC).mono ?_; rintro e w2 ⟨rfl, hb2⟩; have HB2 := hide hb2;  clear hb2))
          go_ret
          exact ⟨rfl, unhide HB⟩
        · have f3 : (nc.kind == 5) = false := by simp [k3]
          by_cases k4 : nc.parent = -1
          · have f4 : (nc.parent != -1) = false := by simp [k4]
            cases k5 : coversM c nc p path with
            | true =>
              have e : mayM ns p np c nc ib path = 11 := by simp [mayM, k1, k2, k3, k5]
              rw [e]
              rw [k5] at HC
              clear e k1 k2 k3 k4 k5
              go_enter Tryz.func40, Tryz.ntmps40
              go_wp2_with (first
                | (go_at_call 32; refine (unhide HM).mono ?_; rintro e w' ⟨rfl, rfl⟩)
                | (go_at_call 46; refine (unhide HH _).mono ?_; rintro e w' ⟨rfl, rfl⟩)
                | (go_at_call 66; refine (unhide HP).mono ?_; rintro e w' ⟨rfl, rfl⟩)
                | (go_at_call 67; refine (unhide HC).mono ?_; rintro e w2 ⟨rfl, hb2⟩; have HB2 := hide hb2;  clear hb2))
              go_ret
              exact ⟨rfl, (unhide HB).trans ((unhide HB2).mono (by simp))⟩
            | false =>
              obtain ⟨nb, hnb⟩ : ∃ nb, ns[ib]? = some nb := ⟨_, List.getElem?_eq_getElem lb⟩
              rw [k5] at HC
              by_cases k6 : nb.parent = p
              · have e : mayM ns p np c nc ib path = 0 := by simp [mayM, k1, k2, k3, k4, k5, hnb, k6]
                rw [e]
                have f6 : (nb.parent != (p : Int)) = false := by simp [k6]
                have HNB := hide hnb
                clear e k1 k2 k3 k4 k5 k6 hnb
                go_enter Tryz.func40, Tryz.ntmps40
                go_wp2_with (first
                  | (go_at_call 32; refine (unhide HM).mono ?_; rintro e w' ⟨rfl, rfl⟩)
                  | (go_at_call 46; refine (unhide HH _).mono ?_; rintro e w' ⟨rfl, rfl⟩)
                  | (go_at_call 66; refine (unhide HP).mono ?_; rintro e w' ⟨rfl, rfl⟩)
                  | (go_at_call 67; refine (unhide HC).mono ?_; rintro e w2 ⟨rfl, hb2⟩; have HB2 := hide hb2; have har2 := ((unhide HAR).below (unhide HB)).below hb2; have hA2 := har2.cA; have hS2 := har2.cS; have hp2 := (har2.cells12 (unhide HNB)).2.2.2.2.2.2.1; clear har2; clear hb2))
                go_ret
                exact ⟨rfl, (unhide HB).trans ((unhide HB2).mono (by simp))⟩
              · have e : mayM ns p np c nc ib path = 1 := by have hne : ¬ ((ib : Int) = -1) := (by omega); simp [mayM, k1, k2, k3, k4, k5, hnb, k6, hne]
                rw [e]
                have f6 : (nb.parent != (p : Int)) = true := by simp [k6]
                have HNB := hide hnb
                clear e k1 k2 k3 k4 k5 k6 hnb
                go_enter Tryz.func40, Tryz.ntmps40
                go_wp2_with (first
                  | (go_at_call 32; refine (unhide HM).mono ?_; rintro e w' ⟨rfl, rfl⟩)
                  | (go_at_call 46; refine (unhide HH _).mono ?_; rintro e w' ⟨rfl, rfl⟩)
                  | (go_at_call 66; refine (unhide HP).mono ?_; rintro e w' ⟨rfl, rfl⟩)
                  | (go_at_call 67; refine (unhide HC).mono ?_; rintro e w2 ⟨rfl, hb2⟩; have HB2 := hide hb2; have har2 := ((unhide HAR).below (unhide HB)).below hb2; have hA2 := har2.cA; have hS2 := har2.cS; have hp2 := (har2.cells12 (unhide HNB)).2.2.2.2.2.2.1; clear har2; clear hb2))
                go_ret
                exact ⟨rfl, (unhide HB).trans ((unhide HB2).mono (by simp))⟩
          · have f4 : (nc.parent != -1) = true := by simp [k4]
            have e : mayM ns p np c nc ib path = 11 := by simp [mayM, k1, k2, k3, k4]
            rw [e]
            clear e k1 k2 k3 k4 HC
            go_enter Tryz.func40, Tryz.ntmps40
            go_wp2_with (first
              | (go_at_call 32; refine (unhide HM).mono ?_; rintro e w' ⟨rfl, rfl⟩)
              | (go_at_call 46; refine (unhide HH _).mono ?_; rintro e w' ⟨rfl, rfl⟩)
              | (go_at_call 66; refine (unhide HP).mono ?_; rintro e w' ⟨rfl, rfl⟩)
              | (go_at_call 67; refine (unhide HC).mono ?_; rintro e w2 ⟨rfl, hb2⟩; have HB2 := hide hb2;  clear hb2))
            go_ret
            exact ⟨rfl, unhide HB⟩
end Go.Proofs.YtmnmaenmoaehlaaGreatDoor
/-
  Link and Unlink.
-/
namespace Go.Proofs.YtmnmaenmoaehlaaGreatDoor
open Go.RowKit

def linkM (ns : List NodeM) (p c : Nat) (b prev : Int) : List NodeM := joinM (joinM (upd ns c (setParent p)) p prev c) p c b
def prevM (ns : List NodeM) (np : NodeM) (b : Int) : Int := if b = -1 then np.last else ((ns[b.toNat]?).map (·.prev)).getD (-1)

theorem okK_len {ns ms : List NodeM} (h : ms.length = ns.length) {k : Int} (hk : okK ns k) : okK ms k := by
  rcases hk with rfl | ⟨i, rfl, hi⟩
  · exact .inl rfl
  · exact .inr ⟨i, rfl, by omega⟩

/-- An arena whose nodes were written in place. -/
theorem upd_of_mod {w w' : World} {base bA bS g cap : Nat} {ns ms : List NodeM} {F : Nat → Prop} (hF : ∀ k, F k ↔ foot bA bS g ns k) (h : Ar w' base bA bS g cap ms) (hm : Mod (fun k => k = g) w w')
    (hav : ∀ k, foot bA bS g ms k → foot bA bS g ns k) : Upd F w w' base bA ms :=
  ⟨_, ⟨bS, g, cap, h, fun k => Iff.rfl⟩, hm.mono (fun k _ hk => (hF k).2 (by subst hk; exact .inr (.inr (.inl rfl)))), fun k hk => .inl ((hF k).2 (hav k hk))⟩

theorem foot_upd {bA bS g : Nat} (ns : List NodeM) (i : Nat) (f : NodeM → NodeM) (hf : ∀ n, (f n).av = n.av) (k : Nat) (h : foot bA bS g (upd ns i f) k) : foot bA bS g ns k := by
  rcases h with h | h | h | ⟨n, hn, hk⟩
  · exact .inl h
  · exact .inr (.inl h)
  · exact .inr (.inr (.inl h))
  · refine .inr (.inr (.inr ?_))
    obtain ⟨j, hj⟩ := List.mem_iff_getElem?.1 hn
    by_cases e : i = j
    · subst e
      cases hi : ns[i]? with
      | none => rw [upd, hi] at hj; rw [hi] at hj; cases hj
      | some m =>
        rw [upd_get_same hi] at hj
        simp at hj; subst hj
        exact ⟨m, List.mem_of_getElem? hi, by rw [← hf m]; exact hk⟩
    · rw [upd_get_other ns e] at hj
      exact ⟨n, List.mem_of_getElem? hj, hk⟩

theorem foot_join {bA bS g : Nat} (ns : List NodeM) (p : Nat) (a b : Int) (k : Nat) (h : foot bA bS g (joinM ns p a b) k) : foot bA bS g ns k := by
  unfold joinM at h
  have h1 : foot bA bS g (joinA ns p a b) k := by
    unfold joinB at h
    split at h
    · exact foot_upd _ _ (setLast a) (fun _ => rfl) k h
    · exact foot_upd _ _ (setPrev a) (fun _ => rfl) k h
  unfold joinA at h1
  split at h1
  · exact foot_upd _ _ (setFirst b) (fun _ => rfl) k h1
  · exact foot_upd _ _ (setNext b) (fun _ => rfl) k h1

theorem foot_link {bA bS g : Nat} (ns : List NodeM) (p c : Nat) (b prev : Int) (k : Nat) (h : foot bA bS g (linkM ns p c b prev) k) : foot bA bS g ns k := by
  unfold linkM at h
  have h1 := foot_join _ _ _ _ k h
  have h2 := foot_join _ _ _ _ k h1
  exact foot_upd _ _ (setParent p) (fun _ => rfl) k h2

theorem link_err {w : World} {base bA bS g cap : Nat} {ns : List NodeM} (p c b e : Int) (he : e ≠ 0) (hmay : Calls Tryz.prog 40 #[.pointer (some ⟨bA, 0, none⟩), .int .i64 p, .int .i64 c, .int .i64 b] w fun x w' => x = .returned (.int .i64 e) ∧ Below w.heap.size w w') (_h : Ar w base bA bS g cap ns) :
    Calls Tryz.prog 14 #[.pointer (some ⟨bA, 0, none⟩), .int .i64 p, .int .i64 c, .int .i64 b] w fun x w' => x = .returned (.int .i64 e) ∧ Below w.heap.size w w' := by
  have HM := hide hmay
  have he' : (e != 0) = true := by simpa using he
  clear hmay he _h
  go_enter Tryz.func14, Tryz.ntmps14
  go_wp2_with (go_at_call 40; refine (unhide HM).mono ?_; rintro e w' ⟨rfl, hb⟩)
  go_ret
  exact ⟨rfl, hb⟩

set_option maxHeartbeats 2000000 in
theorem link_ok {w : World} {base bA bS g cap : Nat} {ns : List NodeM} (h : Ar w base bA bS g cap ns) (p : Nat) (np : NodeM) (hp : ns[p]? = some np) (c : Nat) (nc : NodeM) (hc : ns[c]? = some nc) (b : Int) (hb : okK ns b)
    (path : List Nat) (hpath : PathOf (upF ns) p path) (hmay : mayM ns p np c nc b path = 0) (hprev : okK ns (prevM ns np b)) :
    Calls Tryz.prog 14 #[.pointer (some ⟨bA, 0, none⟩), .int .i64 p, .int .i64 c, .int .i64 b] w fun e w' => e = .returned (.int .i64 0) ∧
      Ar w' base bA bS g cap (linkM ns p c b (prevM ns np b)) ∧ Mod (fun k => k = g) w w' := by
  have lp : p < ns.length := (List.getElem?_eq_some_iff.1 hp).1
  have lc : c < ns.length := (List.getElem?_eq_some_iff.1 hc).1
  have hmost := h.most
  have HM := hide (mayLink_in h p np hp c nc hc b hb path hpath)
  rw [hmay] at HM
  have HA := hide h
  have HP := hide hp
  clear h hpath hmay hp hc
  rcases hb with rfl | ⟨ib, rfl, lb⟩
  · have e1 : prevM ns np (-1) = np.last := by simp [prevM]
    rw [e1] at hprev ⊢
    have fb : ((-1 : Int) != -1) = false := rfl
    have HV := hide hprev
    clear e1 hprev
    go_enter Tryz.func14, Tryz.ntmps14
    go_wp2_with fail
    refine (unhide HM).mono ?_
    rintro e w2 ⟨rfl, hb2⟩
    have har2 := (unhide HA).below hb2
    have hA2 := har2.cA
    have hS2 := har2.cS
    have hl2 := (har2.cells12 (unhide HP)).2.2.2.2.2.2.2.2.1
    obtain ⟨v6, hc6⟩ := har2.there lc 6 (by omega)
    have hfg := har2.fg
    have h3 := har2.upd lc 6 (by omega) (.int .i64 p) (setParent p) (fun n => ⟨rfl, rfl, rfl⟩)
    have HJ := hide (join_any h3 p (by rw [upd_len]; exact lp) np.last c (okK_len (upd_len _ _ _) (unhide HV)) (.inr ⟨c, rfl, by rw [upd_len]; exact lc⟩))
    have HB2 := hide hb2
    clear har2 h3 hb2
    go_wp2_with fail
    refine (unhide HJ).mono ?_
    rintro e w4 ⟨rfl, har4, hm4⟩
    have HJ2 := hide (join_any har4 p (by rw [joinM_len, upd_len]; exact lp) c (-1) (.inr ⟨c, rfl, by rw [joinM_len, upd_len]; exact lc⟩) (.inl rfl))
    have HM4 := hide hm4
    clear har4 hm4
    go_wp2_with fail
    refine (unhide HJ2).mono ?_
    rintro e w5 ⟨rfl, har5, hm5⟩
    have HA5 := hide har5
    have HM5 := hide hm5
    clear har5 hm5
    go_wp2
    go_ret
    exact ⟨rfl, unhide HA5, (((Mod.of_below (unhide HB2)).trans (Mod.setCell (F := fun k => k = g) w2 ⟨g, c * 12 + 6, none⟩ _ rfl)).trans (unhide HM4)).trans (unhide HM5)⟩
  · obtain ⟨nb, hnb⟩ : ∃ nb, ns[ib]? = some nb := ⟨_, List.getElem?_eq_getElem lb⟩
    have e1 : prevM ns np ib = nb.prev := by have hne : ¬ ((ib : Int) = -1) := (by omega); simp [prevM, hne, hnb]
    rw [e1] at hprev ⊢
    have fb : ((ib : Int) != -1) = true := by rw [bne_iff_ne]; omega
    have HV := hide hprev
    have HNB := hide hnb
    clear e1 hprev hnb
    go_enter Tryz.func14, Tryz.ntmps14
    go_wp2_with fail
    refine (unhide HM).mono ?_
    rintro e w2 ⟨rfl, hb2⟩
    have har2 := (unhide HA).below hb2
    have hA2 := har2.cA
    have hS2 := har2.cS
    have hl2 := (har2.cells12 (unhide HP)).2.2.2.2.2.2.2.2.1
    have hp2 := (har2.cells12 (unhide HNB)).2.2.2.2.2.2.2.2.2.1
    obtain ⟨v6, hc6⟩ := har2.there lc 6 (by omega)
    have hfg := har2.fg
    have h3 := har2.upd lc 6 (by omega) (.int .i64 p) (setParent p) (fun n => ⟨rfl, rfl, rfl⟩)
    have HJ := hide (join_any h3 p (by rw [upd_len]; exact lp) nb.prev c (okK_len (upd_len _ _ _) (unhide HV)) (.inr ⟨c, rfl, by rw [upd_len]; exact lc⟩))
    have HB2 := hide hb2
    clear har2 h3 hb2
    go_wp2_with fail
    refine (unhide HJ).mono ?_
    rintro e w4 ⟨rfl, har4, hm4⟩
    have HJ2 := hide (join_any har4 p (by rw [joinM_len, upd_len]; exact lp) c ib (.inr ⟨c, rfl, by rw [joinM_len, upd_len]; exact lc⟩) (.inr ⟨ib, rfl, by rw [joinM_len, upd_len]; exact lb⟩))
    have HM4 := hide hm4
    clear har4 hm4
    go_wp2_with fail
    refine (unhide HJ2).mono ?_
    rintro e w5 ⟨rfl, har5, hm5⟩
    have HA5 := hide har5
    have HM5 := hide hm5
    clear har5 hm5
    go_wp2
    go_ret
    exact ⟨rfl, unhide HA5, (((Mod.of_below (unhide HB2)).trans (Mod.setCell (F := fun k => k = g) w2 ⟨g, c * 12 + 6, none⟩ _ rfl)).trans (unhide HM4)).trans (unhide HM5)⟩

def unlinkM (ns : List NodeM) (i : Nat) (n : NodeM) : List NodeM := upd (upd (upd (joinM ns n.parent.toNat n.prev n.next) i (setParent (-1))) i (setPrev (-1))) i (setNext (-1))

theorem foot_unlink {bA bS g : Nat} (ns : List NodeM) (i : Nat) (n : NodeM) (k : Nat) (h : foot bA bS g (unlinkM ns i n) k) : foot bA bS g ns k := by
  unfold unlinkM at h
  have h1 := foot_upd _ _ (setNext (-1)) (fun _ => rfl) k h
  have h2 := foot_upd _ _ (setPrev (-1)) (fun _ => rfl) k h1
  have h3 := foot_upd _ _ (setParent (-1)) (fun _ => rfl) k h2
  exact foot_join _ _ _ _ k h3

end Go.Proofs.YtmnmaenmoaehlaaGreatDoor
