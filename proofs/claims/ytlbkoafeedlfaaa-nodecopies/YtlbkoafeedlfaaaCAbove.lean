/-
  Above: a range over a function that goes upward.
-/
import Derived.RangeFuncNested
import Derived.RangeFuncBound
import Derived.RangeFuncCalls
import Derived.RangeFuncLeaves
import Derived.Shelf.RegionOpen
import Derived.OwnWalkIn
import Derived.TacticsInMore
import Derived.LoopNIn
import Derived.LoopIn
import Derived.Test.YtlbkoafeedlfaaaCElem2
namespace Go.Proofs.Ytlbkoafeedlfaaa
open Go.RowKit Go.Shelf
attribute [local go_sem] Oper.semAt_some

/-- The numbers that one comes to from k on, a step each, till there is none. -/
def PathOf (f : Nat → Option Int) : Int → List Nat → Prop
  | k, [] => k = -1
  | k, i :: r => k = i ∧ ∃ m, f i = some m ∧ PathOf f m r

/-- How many steps there are, at most so many. -/
def pathLen (f : Nat → Option Int) : Nat → Int → Nat
  | 0, _ => 0
  | c + 1, k => if k < 0 then 0 else match f k.toNat with | none => 0 | some m => 1 + pathLen f c m

theorem pathLen_eq {f : Nat → Option Int} : ∀ {rest : List Nat} {k : Int} (c : Nat), PathOf f k rest → rest.length ≤ c → pathLen f c k = rest.length
  | [], k, c, h, _ => by
    have : k = -1 := h
    subst this
    cases c <;> simp [pathLen]
  | i :: r, k, 0, _, hc => by simp at hc
  | i :: r, k, c + 1, h, hc => by
    obtain ⟨rfl, m, hm, hr⟩ := h
    have hlt : ¬ ((i : Int) < 0) := by omega
    simp only [pathLen, hlt, if_false, Int.toNat_natCast, hm]
    rw [pathLen_eq c hr (by simpa using hc)]
    simp; omega

/-- The blocks of P lie as they lay. -/
def KeepP (P : Nat → Prop) (W W' : World) : Prop := ∀ k, P k → W'.heap[k]? = W.heap[k]?

theorem Ar.keepP {w w' : World} {base bA bS g cap : Nat} {ns : List NodeM} {P : Nat → Prop} (h : Ar w base bA bS g cap ns) (hP : ∀ k, foot bA bS g ns k → P k) (hk : KeepP P w w') : Ar w' base bA bS g cap ns :=
  h.same fun k hf => hk k (hP k hf)

def upF (ns : List NodeM) (i : Nat) : Option Int := (ns[i]?).map (overM ns i)

set_option maxRecDepth 100000 in
set_option maxHeartbeats 1000000 in
theorem up1_in {base bA bS g cap : Nat} {ns : List NodeM} (n : Nat) (hn : 1 ≤ n) (l Bi Ba : Nat) (P : Nat → Prop) (hPf : ∀ k, foot bA bS g ns k → P k) (hPa : P Ba) (path : List Nat) (k0 : Int) (J Jx : List Nat → World → Prop)
    (hY : ∀ pre x W, J pre W → pre.length < path.length → YieldAt Fence.wide (n - 1) Try.prog l #[.int .i64 ((x : Nat) : Int)] W fun e W' =>
      (e = .returned (.bool true) ∧ J (pre ++ [x]) W' ∧ KeepP P W W') ∨ (e = .returned (.bool false) ∧ Jx (pre ++ [x]) W'))
    (W : World) (hBi : W.cell? ⟨Bi, 0, none⟩ = some (.int .i64 k0)) (hBa : W.heap[Ba]? = some (.cells #[.pointer (some ⟨bA, 0, none⟩)] 23 (0, 0))) (har : Ar W base bA bS g cap ns)
    (hpath : PathOf (upF ns) k0 path) (h0 : J [] W) :
    CallsIn Fence.wide n Try.prog 103 #[.func (.yield l) #[] #[], .pointer (some ⟨Bi, 0, none⟩), .pointer (some ⟨Ba, 0, none⟩)] W fun e W' => (∃ v, e = .returned v) ∧
      ((∃ ys, ys = path ∧ J ys W') ∨ (∃ pre, pre <+: path ∧ Jx pre W')) := by
  refine callsIn_of_wp Try.func103 rfl trivial ?_ rfl
  simp only [Try.ntmps103, List.size_toArray, List.length_cons, List.length_nil, Nat.reduceAdd, Nat.reduceSub, Array.replicate_succ, Array.replicate_zero, List.push_toArray, List.append_toArray, List.nil_append, List.cons_append]
  gi_wp2
  gi_loopw [4] (fun p wr => ∃ (pre rest : List Nat) (q : Int), p = .int .i64 q ∧ path = pre ++ rest ∧ PathOf (upF ns) q rest ∧ J pre wr ∧ Ar wr base bA bS g cap ns ∧ wr.heap[Ba]? = some (.cells #[.pointer (some ⟨bA, 0, none⟩)] 23 (0, 0)))
    (fun p _ => pathLen (upF ns) path.length (intOf p))
  case atStart =>
    exact ⟨[], path, k0, rfl, rfl, hpath, h0, har, hBa⟩
  case round =>
    obtain ⟨pre, rest, q, rfl, hx, hl, hJs, harr, hBar⟩ := hrel
    have hcB := cell_of_one hBar
    cases rest with
    | nil =>
      obtain rfl : q = -1 := hl
      gi_wp2
      refine ⟨fun _ _ => trivial, ?_⟩
      gi_wp2
      go_end0
      exact ⟨⟨_, rfl⟩, .inl ⟨pre, by simp [hx], hJs⟩⟩
    | cons x rest =>
      have hl' := hl
      obtain ⟨rfl, m, hm, hr⟩ := hl
      obtain ⟨nd, hnd, rfl⟩ : ∃ nd, ns[x]? = some nd ∧ overM ns x nd = m := by simpa [upF] using hm
      obtain ⟨fn, tmps, assign, body, hy, hR⟩ := hY pre x wr hJs (by rw [hx]; simp)
      have hq : ((x : Int) != -1) = true := by rw [bne_iff_ne]; omega
      have HX := hide hx
      have HL := hide hl'
      have HR := hide hr
      have HA := hide harr
      have HB := hide hBar
      have HN := hide hnd
      clear hx hl' hr harr hBar hnd hm har hBa hpath hcB
      gi_wp2
      refine hR.mono ?_
      rintro e W3 (⟨rfl, hJ3, hk3⟩ | ⟨rfl, hJx3⟩)
      · have har3 := (unhide HA).keepP hPf hk3
        have hB3 := (hk3 Ba hPa).trans (unhide HB)
        have hc3 := cell_of_one hB3
        have HO := hide (over_any har3 x nd (unhide HN))
        have HA3 := hide har3
        have HB3 := hide hB3
        clear har3 hB3
        gi_wp2
        refine ⟨trivial, (callsIn_wide.2 (unhide HO)).mono ?_⟩
        rintro e w' ⟨rfl, rfl⟩
        gi_wp2
        go_roundw
        case rel => exact ⟨pre ++ [x], rest, _, rfl, by simp [unhide HX], unhide HR, hJ3, unhide HA3, unhide HB3⟩
        case measure =>
          have e1 := unhide HX
          have h1 := pathLen_eq path.length (unhide HR) (by rw [e1]; simp; omega)
          have h2 := pathLen_eq path.length (unhide HL) (by rw [e1]; simp)
          simp only [intOf]
          rw [h1, h2]; simp
      · gi_wp2
        go_end0
        exact ⟨⟨_, rfl⟩, .inr ⟨pre ++ [x], ⟨rest, by simp [unhide HX]⟩, hJx3⟩⟩
end Go.Proofs.Ytlbkoafeedlfaaa
