/-
  What eachLine still has before it: lists of neighbours on a stack, and the lines that they stand for.
-/
import Derived.Test.YtlbkoafeedlfaaaSBbo
import Derived.Test.YtlbkoafeedlfaaaSBbp
namespace Go.Proofs.Ytlbkoafeedlfaaa
open Go.RowKit

def cellsS (E : List (List Nat × Nat)) : List Value := E.flatMap fun e => [.int .i64 (headI e.1), .int .i64 e.2]
def putS (E : List (List Nat × Nat)) (L : List Nat) (d : Nat) : List (List Nat × Nat) := if L = [] then E else E ++ [(L, d)]
theorem put_spot {w : World} {base b : Nat} {E : List (List Nat × Nat)} {F : Nat → Prop} (h : StS w base b 149 152 2 E.length (cellsS E) F) (hn : E.length ≤ 10000) (L : List Nat) (d : Nat) (dz : Int) (hdz : dz = (d : Int)) :
    Calls Try.prog 112 #[.int .i64 (headI L), .int .i64 dz, .pointer (some ⟨b, 0, none⟩)] w fun v w' => v = .returned (.tuple #[]) ∧ UpdSt F w w' base b 149 152 2 (putS E L d).length (cellsS (putS E L d)) := by
  subst hdz
  cases L with
  | nil =>
    have HU : Hid (UpdSt F w w base b 149 152 2 (putS E [] d).length (cellsS (putS E [] d))) := hide (by
      unfold putS; rw [if_pos rfl]; exact ⟨F, h, ⟨rfl, rfl, rfl, Nat.le_refl _, fun _ _ _ => rfl⟩, fun k hk => .inl hk⟩)
    show Calls Try.prog 112 #[.int .i64 (-1), .int .i64 d, .pointer (some ⟨b, 0, none⟩)] w _
    clear h
    go_enter Try.func112, Try.ntmps112
    go_wp2
    go_end0
    exact ⟨rfl, unhide HU⟩
  | cons x L =>
    have e1 : putS E (x :: L) d = E ++ [(x :: L, d)] := by unfold putS; rw [if_neg (List.cons_ne_nil _ _)]
    have e2 : cellsS (E ++ [(x :: L, d)]) = cellsS E ++ [.int .i64 (x : Int), .int .i64 (d : Int)] := by unfold cellsS; rw [List.flatMap_append]; rfl
    have HP := hide (push_spot h (x : Int) (d : Int) (by omega))
    rw [e1, e2, List.length_append]
    have hne : (((x : Int)) != -1) = true := by rw [bne_iff_ne]; omega
    show Calls Try.prog 112 #[.int .i64 (x : Int), .int .i64 d, .pointer (some ⟨b, 0, none⟩)] w _
    clear h
    go_enter Try.func112, Try.ntmps112
    go_wp2_with (go_at_call 113; refine (unhide HP).mono ?_; rintro e w' ⟨rfl, hu⟩)
    go_end0
    exact ⟨rfl, hu⟩

/-- Nodes that are still to come; lines that are. -/
def restT (os : List OneM) (E : List (List Nat × Nat)) : List Nat := E.flatMap fun e => e.1.flatMap (TR os)
def evL (os : List OneM) (L : List Nat) (d : Nat) : List (Nat × List ByteArray) := L.flatMap fun c => EV os c d
def restE (os : List OneM) (E : List (List Nat × Nat)) : List (Nat × List ByteArray) := E.reverse.flatMap fun e => evL os e.1 e.2
def GoodT (ns : List NodeM) (os : List OneM) (E : List (List Nat × Nat)) : Prop :=
  ∀ e ∈ E, e.1 ≠ [] ∧ PathOf (nextF ns) (headI e.1) e.1 ∧ ∀ j ∈ e.1, ∃ pj, PathOf (upO os) j pj ∧ e.2 ≤ 2 * pj.length
theorem GoodT.put {ns : List NodeM} {os : List OneM} {E : List (List Nat × Nat)} (h : GoodT ns os E) {L : List Nat} {d : Nat} (hp : PathOf (nextF ns) (headI L) L) (hd : ∀ j ∈ L, ∃ pj, PathOf (upO os) j pj ∧ d ≤ 2 * pj.length) : GoodT ns os (putS E L d) := by
  unfold putS
  split
  · exact h
  · intro e he
    rcases List.mem_append.1 he with he | he
    · exact h e he
    · rw [List.mem_singleton.1 he]; exact ⟨by assumption, hp, hd⟩
theorem restT_put (os : List OneM) (E : List (List Nat × Nat)) (L : List Nat) (d : Nat) : restT os (putS E L d) = restT os E ++ L.flatMap (TR os) := by
  unfold putS
  split
  · rename_i h; rw [h]; simp
  · unfold restT; simp
theorem restE_put (os : List OneM) (E : List (List Nat × Nat)) (L : List Nat) (d : Nat) : restE os (putS E L d) = evL os L d ++ restE os E := by
  unfold putS
  split
  · rename_i h; rw [h]; simp [evL]
  · unfold restE; simp
theorem put_len (E : List (List Nat × Nat)) (L : List Nat) (d : Nat) : (putS E L d).length ≤ E.length + 1 := by
  unfold putS; split <;> simp
theorem rest_ge {ns : List NodeM} {os : List OneM} (hs : Sim ns os) : ∀ (E : List (List Nat × Nat)), GoodT ns os E → E.length ≤ (restT os E).length
  | [], _ => Nat.zero_le _
  | e :: E, h => by
    have ih := rest_ge hs E (fun q hq => h q (List.mem_cons_of_mem _ hq))
    obtain ⟨hne, _, hj⟩ := h e (by simp)
    have h1 : 1 ≤ (e.1.flatMap (TR os)).length := by
      cases hL : e.1 with
      | nil => exact absurd hL hne
      | cons j R =>
        obtain ⟨pj, hp, _⟩ := hj j (by rw [hL]; simp)
        have := TR_self hs (path_in hp j (path_self hp))
        rw [List.flatMap_cons, List.length_append]
        have : 0 < (TR os j).length := List.length_pos_of_mem this
        omega
    unfold restT at *
    rw [List.flatMap_cons, List.length_append, List.length_cons]
    omega
theorem path_first {f : Nat → Option Int} {k : Int} {l : List Nat} (h : PathOf f k l) : k = headI l := by
  cases l with
  | nil => exact h
  | cons x l => exact h.1

/-- A node, as the arena tells it, with its attributes in memory of its own. -/
theorem nodeB {w W : World} {base bA : Nat} {ns : List NodeM} {F : Nat → Prop} (h : ArS w base bA ns F) (hW : Below w.heap.size w W) {i : Nat} {n : NodeM} (hi : ns[i]? = some n) :
    Calls Try.prog 18 #[.pointer (some ⟨bA, 0, none⟩), .int .i64 i] W fun e w' => ∃ a c, e = .returned (.tuple #[.agg #[.int .i64 n.kind, .int .i64 n.space, .string n.name, .slice a n.attrs.length c, .string n.data, .string n.system, .int .i64 n.parent, .int .i64 n.first, .int .i64 n.last, .int .i64 n.prev, .int .i64 n.next, .int .i64 n.inner], .int .i64 0]) ∧ RowA w' W.heap.size a c n.attrs ∧ Below W.heap.size W w' := by
  refine (node_in (h.below hW) i n hi).mono fun e w' ⟨ao, cp, h1, h2, h3, h4⟩ => ⟨ao, cp, h1, ?_, h3⟩
  refine ⟨h2.1, ?_⟩
  rcases h2.2 with hn | ⟨g', cap', cur, e1, hbb, hgg, rest⟩
  · exact .inl hn
  · exact .inr ⟨g', cap', cur, e1, h4 g' (by rw [e1]; rfl), hgg, rest⟩
/-- The three lists that come of a node. -/
theorem step_rest {ns : List NodeM} {os : List OneM} (hs : Sim ns os) {j d : Nat} {o : OneM} (ho : os[j]? = some o) (E : List (List Nat × Nat)) (R : List Nat) :
    (restT os (E ++ [(j :: R, d)])).length = (restT os (putS (putS (putS E R d) o.kids (d + 1)) (innerK os o) (d + 2))).length + 1 + ((innerL o).flatMap (TR os)).length - ((innerK os o).flatMap (TR os)).length ∧
    ((innerK os o).flatMap (TR os)).length ≤ ((innerL o).flatMap (TR os)).length ∧
    restE os (E ++ [(j :: R, d)]) = (tellE o d ++ contE o d) ++ restE os (putS (putS (putS E R d) o.kids (d + 1)) (innerK os o) (d + 2)) := by
  have hl := TR_len hs ho
  have hin : ((innerK os o).flatMap (TR os)).length ≤ ((innerL o).flatMap (TR os)).length := by
    cases hi : innerL o with
    | nil => unfold innerK; rw [hi]; simp
    | cons i r =>
      have hr : r = [] := by
        unfold innerL at hi
        split at hi
        · cases hi
        · cases hi; rfl
      subst hr
      obtain ⟨_, m, hm, _⟩ := hs.inner_facts ho (c := i) (by rw [hi]; simp)
      have hlm := TR_len hs hm
      have e1 : innerK os o = m.kids := by unfold innerK kidsAt; rw [hi]; simp [hm]
      have e2 : ([i].flatMap (TR os)) = TR os i := by simp
      rw [e1, e2]
      omega
  refine ⟨?_, hin, ?_⟩
  · rw [restT_put, restT_put, restT_put]
    have : (restT os (E ++ [(j :: R, d)])).length = (restT os E).length + (TR os j).length + (R.flatMap (TR os)).length := by
      unfold restT; rw [List.flatMap_append]; simp; omega
    rw [this, hl]
    simp only [List.length_append]
    omega
  · rw [restE_put, restE_put, restE_put]
    unfold restE evL
    rw [List.reverse_append]
    simp only [List.reverse_cons, List.reverse_nil, List.nil_append, List.singleton_append, List.flatMap_cons]
    rw [EV_some hs ho]
    simp only [List.append_assoc]
end Go.Proofs.Ytlbkoafeedlfaaa
