/-
  Package show's Same: the pairs that are still to be held against each other, and the walk. Package show's Same, walked.
-/
import Derived.Test.YtlbkoafeedlfaaaSBbc
import Derived.Test.YtlbkoafeedlfaaaSBar
namespace Go.Proofs.Ytlbkoafeedlfaaa
open Go.RowKit

/-- Two nodes that are still to be held against each other, with their later neighbours. -/
structure Ent where
  x : Int
  y : Int
  l : List Nat
  m : List Nat
def cellsE (E : List Ent) : List Value := E.flatMap fun e => [.int .i64 e.x, .int .i64 e.y]
structure OkE (ns ns' : List NodeM) (e : Ent) : Prop where
  left : PathOf (nextF ns) e.x e.l
  right : PathOf (nextF ns') e.y e.m
  some_ : e.x ≠ -1 ∨ e.y ≠ -1
def allE (os os' : List OneM) (E : List Ent) : Bool := E.all fun e => allF (SS os os') e.l e.m
def msE (os : List OneM) (E : List Ent) : Nat := (E.flatMap fun e => e.l.flatMap (TR os)).length
def pushE (e : Ent) : List Ent := if e.x ≠ -1 ∨ e.y ≠ -1 then [e] else []

theorem path_neg {f : Nat → Option Int} {l : List Nat} (h : PathOf f (-1) l) : l = [] := by
  cases l with
  | nil => rfl
  | cons i r => have := h.1; omega
theorem pushE_all {ns ns' : List NodeM} {os os' : List OneM} {e : Ent} (h1 : PathOf (nextF ns) e.x e.l) (h2 : PathOf (nextF ns') e.y e.m) (E : List Ent) : allE os os' (E ++ pushE e) = (allE os os' E && allF (SS os os') e.l e.m) := by
  unfold allE pushE
  split
  · simp
  · rename_i h
    have hx : e.x = -1 := by omega
    have hy : e.y = -1 := by omega
    rw [hx] at h1
    rw [hy] at h2
    rw [path_neg h1, path_neg h2]
    simp [allF]
theorem pushE_ms {ns : List NodeM} {os : List OneM} {e : Ent} (h1 : PathOf (nextF ns) e.x e.l) (E : List Ent) : msE os (E ++ pushE e) = msE os E + (e.l.flatMap (TR os)).length := by
  unfold msE pushE
  split
  · simp
  · rename_i h
    have hx : e.x = -1 := by omega
    rw [hx] at h1
    rw [path_neg h1]
    simp
theorem pushE_len (e : Ent) (E : List Ent) : (E ++ pushE e).length ≤ E.length + 1 := by
  unfold pushE; split <;> simp
theorem pushE_ok {ns ns' : List NodeM} {e : Ent} (h1 : PathOf (nextF ns) e.x e.l) (h2 : PathOf (nextF ns') e.y e.m) {E : List Ent} (h : ∀ q ∈ E, OkE ns ns' q) : ∀ q ∈ E ++ pushE e, OkE ns ns' q := by
  intro q hq
  rcases List.mem_append.1 hq with hq | hq
  · exact h q hq
  · unfold pushE at hq
    split at hq
    · rename_i hs
      rw [List.mem_singleton] at hq; subst hq
      exact ⟨h1, h2, hs⟩
    · cases hq

theorem next_some {ns : List NodeM} {i : Nat} {m : Int} (h : nextF ns i = some m) : ∃ n, ns[i]? = some n ∧ n.next = m := by
  unfold nextF at h
  cases hn : ns[i]? with
  | none => rw [hn] at h; cases h
  | some n => rw [hn] at h; exact ⟨n, rfl, by simpa using h⟩

section
variable {w W : World} {base bA : Nat} {ns : List NodeM} {F : Nat → Prop}
theorem nodeA (h : ArS w base bA ns F) (hW : Below w.heap.size w W) {i : Nat} {n : NodeM} (hi : ns[i]? = some n) :
    Calls Try.prog 18 #[.pointer (some ⟨bA, 0, none⟩), .int .i64 i] W fun e w' => ∃ a c, e = .returned (.tuple #[.agg #[.int .i64 n.kind, .int .i64 n.space, .string n.name, .slice a n.attrs.length c, .string n.data, .string n.system, .int .i64 n.parent, .int .i64 n.first, .int .i64 n.last, .int .i64 n.prev, .int .i64 n.next, .int .i64 n.inner], .int .i64 0]) ∧ AttrsIn w' a n.attrs ∧ Below W.heap.size W w' := by
  refine (node_in (h.below hW) i n hi).mono fun e w' ⟨ao, cp, h1, h2, h3, _⟩ => ?_
  obtain ⟨a2, c2, e2, hA⟩ := ownsRow_attrs h2
  simp only [Value.slice.injEq] at e2
  obtain ⟨rfl, _, _⟩ := e2
  exact ⟨ao, cp, h1, hA, h3⟩
end

/-- What a put leaves. -/
def PutSt (F : Nat → Prop) (w w' : World) (base b : Nat) (E : List Ent) : Prop :=
  ∃ F', StS w' base b 125 128 2 E.length (cellsE E) F' ∧ (∀ k, k < w.heap.size → ¬ F k → w'.heap[k]? = w.heap[k]?) ∧ (∀ k, F' k → F k ∨ w.heap.size ≤ k) ∧ Below base w w'

set_option maxHeartbeats 1000000 in
theorem put_any {w : World} {base b : Nat} {E : List Ent} {F : Nat → Prop} (h : StS w base b 125 128 2 E.length (cellsE E) F) (hbase : base ≤ w.heap.size) (hn : E.length ≤ 100000) (e : Ent) :
    Calls Try.prog 81 #[.int .i64 e.x, .int .i64 e.y, .pointer (some ⟨b, 0, none⟩)] w fun v w' => v = .returned (.tuple #[]) ∧ PutSt F w w' base b (E ++ pushE e) := by
  by_cases hp : e.x ≠ -1 ∨ e.y ≠ -1
  · have hE : cellsE (E ++ pushE e) = cellsE E ++ [.int .i64 e.x, .int .i64 e.y] := by unfold pushE; rw [if_pos hp]; simp [cellsE]
    have hL : (E ++ pushE e).length = E.length + 1 := by unfold pushE; rw [if_pos hp]; simp
    have HP := hide (fun ob => push_pair (h.below (((Below.refl _ w).alloc (Nat.le_refl _) ob))) e.x e.y hn)
    have HQ := hide (push_pair h e.x e.y hn)
    have HFIN : Hid (∀ w', UpdSt F w w' base b 125 128 2 (E.length + 1) (cellsE E ++ [.int .i64 e.x, .int .i64 e.y]) → PutSt F w w' base b (E ++ pushE e)) := hide (fun w' ⟨F', h1, h2, h3⟩ => ⟨F', by rw [hL, hE]; exact h1, h2.block, h3, h2.below hbase (fun k hk => (h.lt hk).1)⟩)
    clear h hn hE hL
    by_cases hx : e.x = -1
    · have bx : (e.x != -1) = false := by simp [hx]
      have by' : (e.y != -1) = true := by rw [bne_iff_ne]; exact hp.resolve_left (fun h => h hx)
      clear hp hx
      go_enter Try.func81, Try.ntmps81
      go_wp2_with (go_at_call 82; refine (unhide HQ).mono ?_; rintro v w1 ⟨rfl, hu⟩; have HU := hide hu; clear hu)
      go_end0
      exact ⟨rfl, (unhide HFIN) _ (unhide HU)⟩
    · have bx : (e.x != -1) = true := by rw [bne_iff_ne]; exact hx
      clear hp hx
      go_enter Try.func81, Try.ntmps81
      go_wp2_with (go_at_call 82; refine (unhide HQ).mono ?_; rintro v w1 ⟨rfl, hu⟩; have HU := hide hu; clear hu)
      go_end0
      exact ⟨rfl, (unhide HFIN) _ (unhide HU)⟩
  · have hE : E ++ pushE e = E := by unfold pushE; rw [if_neg hp]; simp
    have hx : e.x = -1 := by omega
    have hy : e.y = -1 := by omega
    have bx : (e.x != -1) = false := by simp [hx]
    have by' : (e.y != -1) = false := by simp [hy]
    rw [hE]
    have HH := hide h
    clear h hp hx hy hE
    go_enter Try.func81, Try.ntmps81
    go_wp2
    go_end0
    exact ⟨rfl, F, unhide HH, fun _ _ _ => rfl, fun k hk => .inl hk, Below.refl _ _⟩
end Go.Proofs.Ytlbkoafeedlfaaa

namespace Go.Proofs.Ytlbkoafeedlfaaa
open Go.RowKit

def eqN (n m : NodeM) : Bool := n.kind == m.kind && n.space == m.space && n.name == m.name && n.data == m.data && n.system == m.system && attrsEq n.attrs m.attrs
theorem eqN_of {n m : NodeM} {o p : OneM} (h1 : Same n o) (h2 : Same m p) : eqN n m = eqD o p := by
  unfold eqN eqD
  rw [h1.kind, h1.space, h1.name, h1.data, h1.system, h1.attrs, h2.kind, h2.space, h2.name, h2.data, h2.system, h2.attrs]

section
variable {ns ns' : List NodeM} {os os' : List OneM}
theorem first_path (h : Sim ns os) {i : Nat} {n : NodeM} {o : OneM} (hn : ns[i]? = some n) (ho : os[i]? = some o) : PathOf (nextF ns) n.first o.kids := (h.kids i o ho).path hn
theorem inner_path (h : Sim ns os) {i : Nat} {n : NodeM} {o : OneM} (hn : ns[i]? = some n) (ho : os[i]? = some o) : PathOf (nextF ns) n.inner (innerL o) := by
  have hin := (h.same i n o hn ho).inner
  cases hl : innerL o with
  | nil =>
    unfold innerL at hl
    split at hl
    · rename_i e; rw [hin, e]; rfl
    · cases hl
  | cons c r =>
    have hc : c ∈ innerL o := by rw [hl]; simp
    have hr : r = [] := by
      unfold innerL at hl
      split at hl
      · cases hl
      · cases hl; rfl
    subst hr
    obtain ⟨e, m, hm, hu, _⟩ := h.inner_facts ho hc
    obtain ⟨nc, hnc, smc⟩ := h.get hm
    have := (h.loose c nc hnc (by rw [smc.up]; exact hu)).2
    refine ⟨by rw [hin]; exact e, -1, ?_, rfl⟩
    unfold nextF
    rw [hnc]; simp [this]
theorem TR_len (h : Sim ns os) {i : Nat} {o : OneM} (ho : os[i]? = some o) : (TR os i).length = 1 + (o.kids.flatMap (TR os)).length + ((innerL o).flatMap (TR os)).length := by
  rw [TR_some h ho]
  unfold belowO
  rw [List.flatMap_append]
  simp
  omega

/-- What the walk keeps from round to round. -/
def Rel (ns ns' : List NodeM) (os os' : List OneM) (x y : Int) (g : Nat) (s : Value) (E : List Ent) : Prop :=
  (s = .bool true ∧ (∃ l m, E = [⟨x, y, l, m⟩]) ∧ g = os.length + 1) ∨
  (s = .bool false ∧ (∀ e ∈ E, OkE ns ns' e) ∧ SSI os os' x y = allE os os' E ∧ E.length + 2 * msE os E ≤ 1 + 2 * os.length ∧ g = msE os E)

theorem Rel.short {x y : Int} {g : Nat} {s : Value} {E : List Ent} (h : Rel ns ns' os os' x y g s E) : E.length ≤ 1 + 2 * os.length := by
  rcases h with ⟨_, ⟨l, m, rfl⟩, _⟩ | ⟨_, _, _, h, _⟩
  · simp
  · omega

theorem allE_last (E : List Ent) (e : Ent) : allE os os' (E ++ [e]) = (allE os os' E && allF (SS os os') e.l e.m) := by unfold allE; simp

theorem hasM_eq {k : Int} : hasM ns k = true ↔ ∃ i : Nat, k = i ∧ i < ns.length := by
  unfold hasM
  rw [decide_eq_true_eq]
  exact ⟨fun h => ⟨k.toNat, by omega, by omega⟩, fun ⟨i, h1, h2⟩ => by omega⟩

/-- A pair of which one is none, or that are not alike. -/
theorem Rel.bad (sA : Sim ns os) (sB : Sim ns' os') {x y : Int} {g : Nat} {s : Value} {E : List Ent} {e : Ent} (h : Rel ns ns' os os' x y g s (E ++ [e]))
    (hb : hasM ns e.x = false ∨ hasM ns' e.y = false ∨ ∃ (i j : Nat) (n m : NodeM), e.x = i ∧ ns[i]? = some n ∧ e.y = j ∧ ns'[j]? = some m ∧ eqN n m = false) : SSI os os' x y = false := by
  rcases h with ⟨_, ⟨l, m, he⟩, _⟩ | ⟨_, hok, hs, _, _⟩
  · have hE : E = [] ∧ e = ⟨x, y, l, m⟩ := by
      cases E with
      | nil => exact ⟨rfl, by simpa using he⟩
      | cons a r => simp at he
    obtain ⟨_, rfl⟩ := hE
    unfold SSI
    rcases hb with hb | hb | ⟨i, j, n, m', hx, hn, hy, hm, hq⟩
    · rw [← sA.hasM]; simp only at hb; rw [hb]; rfl
    · rw [← sB.hasM y]; simp only at hb; rw [hb]; simp
    · simp only at hx hy
      subst hx hy
      obtain ⟨o, ho, sm⟩ := sA.getO hn
      obtain ⟨p, hp, sm'⟩ := sB.getO hm
      rw [Int.toNat_natCast, Int.toNat_natCast, SS_some sA ho hp, ← eqN_of sm sm', hq]
      simp
  · rw [hs, allE_last]
    have ok := hok e (by simp)
    suffices h : allF (SS os os') e.l e.m = false by rw [h]; simp
    rcases hb with hb | hb | ⟨i, j, n, m', hx, hn, hy, hm, hq⟩
    · cases hl : e.l with
      | nil =>
        cases hm : e.m with
        | nil =>
          have h1 := ok.left; rw [hl] at h1
          have h2 := ok.right; rw [hm] at h2
          exact absurd ok.some_ (by rintro (h | h); exact h h1; exact h h2)
        | cons b r => rfl
      | cons a r =>
        have h1 := ok.left; rw [hl] at h1
        obtain ⟨e1, m, hm, _⟩ := h1
        obtain ⟨n, hn, _⟩ := next_some hm
        have : hasM ns e.x = true := hasM_eq.2 ⟨a, e1, (List.getElem?_eq_some_iff.1 hn).1⟩
        rw [hb] at this; cases this
    · cases hm : e.m with
      | nil =>
        cases hl : e.l with
        | nil =>
          have h1 := ok.left; rw [hl] at h1
          have h2 := ok.right; rw [hm] at h2
          exact absurd ok.some_ (by rintro (h | h); exact h h1; exact h h2)
        | cons b r => rfl
      | cons a r =>
        have h1 := ok.right; rw [hm] at h1
        obtain ⟨e1, m, hm, _⟩ := h1
        obtain ⟨n, hn, _⟩ := next_some hm
        have : hasM ns' e.y = true := hasM_eq.2 ⟨a, e1, (List.getElem?_eq_some_iff.1 hn).1⟩
        rw [hb] at this; cases this
    · cases hl : e.l with
      | nil => have h1 := ok.left; rw [hl] at h1; have : e.x = -1 := h1; omega
      | cons a r =>
        cases hmm : e.m with
        | nil => rfl
        | cons b r' =>
          have h1 := ok.left; rw [hl] at h1
          have h2 := ok.right; rw [hmm] at h2
          have ea : a = i := by have := h1.1; omega
          have eb : b = j := by have := h2.1; omega
          subst ea eb
          obtain ⟨o, ho, sm⟩ := sA.getO hn
          obtain ⟨p, hp, sm'⟩ := sB.getO hm
          rw [allF, SS_some sA ho hp, ← eqN_of sm sm', hq]
          simp

/-- The first pair, alike: their children and contents are next. -/
theorem Rel.top (sA : Sim ns os) (sB : Sim ns' os') {x y : Int} {i j : Nat} {n m : NodeM} {o p : OneM} (hx : x = i) (hy : y = j) (hn : ns[i]? = some n) (hm : ns'[j]? = some m) (ho : os[i]? = some o) (hp : os'[j]? = some p) (hq : eqN n m = true) :
    ∃ g, g < os.length + 1 ∧ Rel ns ns' os os' x y g (.bool false) (([] ++ pushE ⟨n.first, m.first, o.kids, p.kids⟩) ++ pushE ⟨n.inner, m.inner, innerL o, innerL p⟩) := by
  have f1 := first_path sA hn ho
  have f2 := first_path sB hm hp
  have i1 := inner_path sA hn ho
  have i2 := inner_path sB hm hp
  have hlen := TR_len sA ho
  have hshort := tree_short sA (os.length + 1) i
  have hms : msE os (([] ++ pushE ⟨n.first, m.first, o.kids, p.kids⟩) ++ pushE ⟨n.inner, m.inner, innerL o, innerL p⟩) = (o.kids.flatMap (TR os)).length + ((innerL o).flatMap (TR os)).length := by
    rw [pushE_ms (ns := ns) i1, pushE_ms (ns := ns) f1]
    simp [msE]
  have hT : (TR os i).length ≤ os.length := hshort
  have l1 := pushE_len ⟨n.first, m.first, o.kids, p.kids⟩ []
  have l2 := pushE_len ⟨n.inner, m.inner, innerL o, innerL p⟩ ([] ++ pushE ⟨n.first, m.first, o.kids, p.kids⟩)
  simp only [List.length_nil] at l1
  refine ⟨_, ?_, .inr ⟨rfl, pushE_ok i1 i2 (pushE_ok f1 f2 (fun q hq => by cases hq)), ?_, ?_, rfl⟩⟩
  · omega
  · rw [pushE_all i1 i2, pushE_all f1 f2]
    unfold SSI
    subst hx hy
    have h1 : hasO os (i : Int) = true := hasO_of ho
    have h2 : hasO os' (j : Int) = true := hasO_of hp
    rw [h1, h2, Int.toNat_natCast, Int.toNat_natCast, SS_some sA ho hp, ← eqN_of (sA.same i n o hn ho) (sB.same j m p hm hp), hq]
    simp [allE]
  · omega

/-- A later pair, alike: their next neighbours, children and contents are next. -/
theorem Rel.step (sA : Sim ns os) (sB : Sim ns' os') {x y : Int} {g : Nat} {E : List Ent} {e : Ent} (h : Rel ns ns' os os' x y g (.bool false) (E ++ [e])) {i j : Nat} {n m : NodeM} {o p : OneM} (hx : e.x = i) (hy : e.y = j) (hn : ns[i]? = some n) (hm : ns'[j]? = some m) (ho : os[i]? = some o) (hp : os'[j]? = some p) (hq : eqN n m = true) :
    ∃ l' m', Rel ns ns' os os' x y (g - 1) (.bool false) (((E ++ pushE ⟨n.next, m.next, l', m'⟩) ++ pushE ⟨n.first, m.first, o.kids, p.kids⟩) ++ pushE ⟨n.inner, m.inner, innerL o, innerL p⟩) ∧ g - 1 < g := by
  rcases h with ⟨h, _⟩ | ⟨_, hok, hs, hb, hg⟩
  · cases h
  have ok := hok e (by simp)
  have f1 := first_path sA hn ho
  have f2 := first_path sB hm hp
  have i1 := inner_path sA hn ho
  have i2 := inner_path sB hm hp
  have hlen := TR_len sA ho
  cases hl : e.l with
  | nil => have h1 := ok.left; rw [hl] at h1; have : e.x = -1 := h1; omega
  | cons a r =>
    cases hmm : e.m with
    | nil => have h1 := ok.right; rw [hmm] at h1; have : e.y = -1 := h1; omega
    | cons b r' =>
      have h1 := ok.left; rw [hl] at h1
      have h2 := ok.right; rw [hmm] at h2
      have ea : a = i := by have := h1.1; omega
      have eb : b = j := by have := h2.1; omega
      subst ea eb
      obtain ⟨_, q1, hq1, n1⟩ := h1
      obtain ⟨_, q2, hq2, n2⟩ := h2
      obtain ⟨n0, hn0, e0⟩ := next_some hq1
      rw [hn] at hn0; cases hn0
      obtain ⟨m0, hm0, e0'⟩ := next_some hq2
      rw [hm] at hm0; cases hm0
      rw [← e0] at n1
      rw [← e0'] at n2
      have hms0 : msE os (E ++ [e]) = msE os E + ((TR os a).length + (r.flatMap (TR os)).length) := by
        unfold msE; simp [hl]
      have hms : msE os (((E ++ pushE ⟨n.next, m.next, r, r'⟩) ++ pushE ⟨n.first, m.first, o.kids, p.kids⟩) ++ pushE ⟨n.inner, m.inner, innerL o, innerL p⟩) = msE os E + (r.flatMap (TR os)).length + (o.kids.flatMap (TR os)).length + ((innerL o).flatMap (TR os)).length := by
        rw [pushE_ms (ns := ns) i1, pushE_ms (ns := ns) f1, pushE_ms (ns := ns) n1]
      have l0 := pushE_len ⟨n.next, m.next, r, r'⟩ E
      have l1 := pushE_len ⟨n.first, m.first, o.kids, p.kids⟩ (E ++ pushE ⟨n.next, m.next, r, r'⟩)
      have l2 := pushE_len ⟨n.inner, m.inner, innerL o, innerL p⟩ ((E ++ pushE ⟨n.next, m.next, r, r'⟩) ++ pushE ⟨n.first, m.first, o.kids, p.kids⟩)
      have hEl : (E ++ [e]).length = E.length + 1 := by simp
      refine ⟨r, r', .inr ⟨rfl, pushE_ok i1 i2 (pushE_ok f1 f2 (pushE_ok n1 n2 (fun q hq => hok q (by simp [hq])))), ?_, ?_, ?_⟩, ?_⟩
      · rw [hs, allE_last, hl, hmm, allF, SS_some sA ho hp, ← eqN_of (sA.same a n o hn ho) (sB.same b m p hm hp), hq, pushE_all i1 i2, pushE_all f1 f2, pushE_all n1 n2]
        simp only [Bool.true_and]
        cases allE os os' E <;> cases allF (SS os os') r r' <;> cases allF (SS os os') o.kids p.kids <;> cases allF (SS os os') (innerL o) (innerL p) <;> rfl
      · omega
      · omega
      · omega
end
end Go.Proofs.Ytlbkoafeedlfaaa
