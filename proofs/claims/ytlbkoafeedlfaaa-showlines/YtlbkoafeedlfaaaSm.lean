/-
  Package show's Same: the pairs that are still to be held against each other, and the walk.
-/
import Derived.Test.YtlbkoafeedlfaaaSa
import Derived.Test.YtlbkoafeedlfaaaStk
import Derived.Test.YtlbkoafeedlfaaaRf
namespace Go.Proofs.Ytlbkoafeedlfaaa
open Go.RowKit

/-- Two nodes that are still to be held against each other, with their later neighbours. -/
structure Ent where
  x : Int
  y : Int
  l : List Nat
  m : List Nat
def cellsE (E : List Ent) : List Value := E.flatMap fun e => [.int .i64 e.x, .int .i64 e.y]
structure OkE (ns ns' : List NodeM) (e : Ent) : Prop where
  left : PathOf (nextF ns) e.x e.l
  right : PathOf (nextF ns') e.y e.m
  some_ : e.x ≠ -1 ∨ e.y ≠ -1
def allE (os os' : List OneM) (E : List Ent) : Bool := E.all fun e => allF (SS os os') e.l e.m
def msE (os : List OneM) (E : List Ent) : Nat := (E.flatMap fun e => e.l.flatMap (TR os)).length
def pushE (e : Ent) : List Ent := if e.x ≠ -1 ∨ e.y ≠ -1 then [e] else []

theorem path_neg {f : Nat → Option Int} {l : List Nat} (h : PathOf f (-1) l) : l = [] := by
  cases l with
  | nil => rfl
  | cons i r => have := h.1; omega
theorem pushE_all {ns ns' : List NodeM} {os os' : List OneM} {e : Ent} (h1 : PathOf (nextF ns) e.x e.l) (h2 : PathOf (nextF ns') e.y e.m) (E : List Ent) : allE os os' (E ++ pushE e) = (allE os os' E && allF (SS os os') e.l e.m) := by
  unfold allE pushE
  split
  · simp
  · rename_i h
    have hx : e.x = -1 := by omega
    have hy : e.y = -1 := by omega
    rw [hx] at h1
    rw [hy] at h2
    rw [path_neg h1, path_neg h2]
    simp [allF]
theorem pushE_ms {ns : List NodeM} {os : List OneM} {e : Ent} (h1 : PathOf (nextF ns) e.x e.l) (E : List Ent) : msE os (E ++ pushE e) = msE os E + (e.l.flatMap (TR os)).length := by
  unfold msE pushE
  split
  · simp
  · rename_i h
    have hx : e.x = -1 := by omega
    rw [hx] at h1
    rw [path_neg h1]
    simp
theorem pushE_len (e : Ent) (E : List Ent) : (E ++ pushE e).length ≤ E.length + 1 := by
  unfold pushE; split <;> simp
theorem pushE_ok {ns ns' : List NodeM} {e : Ent} (h1 : PathOf (nextF ns) e.x e.l) (h2 : PathOf (nextF ns') e.y e.m) {E : List Ent} (h : ∀ q ∈ E, OkE ns ns' q) : ∀ q ∈ E ++ pushE e, OkE ns ns' q := by
  intro q hq
  rcases List.mem_append.1 hq with hq | hq
  · exact h q hq
  · unfold pushE at hq
    split at hq
    · rename_i hs
      rw [List.mem_singleton] at hq; subst hq
      exact ⟨h1, h2, hs⟩
    · cases hq

theorem next_some {ns : List NodeM} {i : Nat} {m : Int} (h : nextF ns i = some m) : ∃ n, ns[i]? = some n ∧ n.next = m := by
  unfold nextF at h
  cases hn : ns[i]? with
  | none => rw [hn] at h; cases h
  | some n => rw [hn] at h; exact ⟨n, rfl, by simpa using h⟩

section
variable {w W : World} {base bA : Nat} {ns : List NodeM} {F : Nat → Prop}
theorem nodeA (h : ArS w base bA ns F) (hW : Below w.heap.size w W) {i : Nat} {n : NodeM} (hi : ns[i]? = some n) :
    Calls Try.prog 18 #[.pointer (some ⟨bA, 0, none⟩), .int .i64 i] W fun e w' => ∃ a c, e = .returned (.tuple #[.agg #[.int .i64 n.kind, .int .i64 n.space, .string n.name, .slice a n.attrs.length c, .string n.data, .string n.system, .int .i64 n.parent, .int .i64 n.first, .int .i64 n.last, .int .i64 n.prev, .int .i64 n.next, .int .i64 n.inner], .int .i64 0]) ∧ AttrsIn w' a n.attrs ∧ Below W.heap.size W w' := by
  refine (node_in (h.below hW) i n hi).mono fun e w' ⟨ao, cp, h1, h2, h3, _⟩ => ?_
  obtain ⟨a2, c2, e2, hA⟩ := ownsRow_attrs h2
  simp only [Value.slice.injEq] at e2
  obtain ⟨rfl, _, _⟩ := e2
  exact ⟨ao, cp, h1, hA, h3⟩
end

/-- What a put leaves. -/
def PutSt (F : Nat → Prop) (w w' : World) (base b : Nat) (E : List Ent) : Prop :=
  ∃ F', StS w' base b 125 128 2 E.length (cellsE E) F' ∧ (∀ k, k < w.heap.size → ¬ F k → w'.heap[k]? = w.heap[k]?) ∧ (∀ k, F' k → F k ∨ w.heap.size ≤ k) ∧ Below base w w'

set_option maxHeartbeats 1000000 in
theorem put_any {w : World} {base b : Nat} {E : List Ent} {F : Nat → Prop} (h : StS w base b 125 128 2 E.length (cellsE E) F) (hbase : base ≤ w.heap.size) (hn : E.length ≤ 100000) (e : Ent) :
    Calls Try.prog 81 #[.int .i64 e.x, .int .i64 e.y, .pointer (some ⟨b, 0, none⟩)] w fun v w' => v = .returned (.tuple #[]) ∧ PutSt F w w' base b (E ++ pushE e) := by
  by_cases hp : e.x ≠ -1 ∨ e.y ≠ -1
  · have hE : cellsE (E ++ pushE e) = cellsE E ++ [.int .i64 e.x, .int .i64 e.y] := by unfold pushE; rw [if_pos hp]; simp [cellsE]
    have hL : (E ++ pushE e).length = E.length + 1 := by unfold pushE; rw [if_pos hp]; simp
    have HP := hide (fun ob => push_pair (h.below (((Below.refl _ w).alloc (Nat.le_refl _) ob))) e.x e.y hn)
    have HQ := hide (push_pair h e.x e.y hn)
    have HFIN : Hid (∀ w', UpdSt F w w' base b 125 128 2 (E.length + 1) (cellsE E ++ [.int .i64 e.x, .int .i64 e.y]) → PutSt F w w' base b (E ++ pushE e)) := hide (fun w' ⟨F', h1, h2, h3⟩ => ⟨F', by rw [hL, hE]; exact h1, h2.block, h3, h2.below hbase (fun k hk => (h.lt hk).1)⟩)
    clear h hn hE hL
    by_cases hx : e.x = -1
    · have bx : (e.x != -1) = false := by simp [hx]
      have by' : (e.y != -1) = true := by rw [bne_iff_ne]; exact hp.resolve_left (fun h => h hx)
      clear hp hx
      go_enter Try.func81, Try.ntmps81
      go_wp2_with (go_at_call 82; refine (unhide HQ).mono ?_; rintro v w1 ⟨rfl, hu⟩; have HU := hide hu; clear hu)
      go_end0
      exact ⟨rfl, (unhide HFIN) _ (unhide HU)⟩
    · have bx : (e.x != -1) = true := by rw [bne_iff_ne]; exact hx
      clear hp hx
      go_enter Try.func81, Try.ntmps81
      go_wp2_with (go_at_call 82; refine (unhide HQ).mono ?_; rintro v w1 ⟨rfl, hu⟩; have HU := hide hu; clear hu)
      go_end0
      exact ⟨rfl, (unhide HFIN) _ (unhide HU)⟩
  · have hE : E ++ pushE e = E := by unfold pushE; rw [if_neg hp]; simp
    have hx : e.x = -1 := by omega
    have hy : e.y = -1 := by omega
    have bx : (e.x != -1) = false := by simp [hx]
    have by' : (e.y != -1) = false := by simp [hy]
    rw [hE]
    have HH := hide h
    clear h hp hx hy hE
    go_enter Try.func81, Try.ntmps81
    go_wp2
    go_end0
    exact ⟨rfl, F, unhide HH, fun _ _ _ => rfl, fun k hk => .inl hk, Below.refl _ _⟩
end Go.Proofs.Ytlbkoafeedlfaaa
