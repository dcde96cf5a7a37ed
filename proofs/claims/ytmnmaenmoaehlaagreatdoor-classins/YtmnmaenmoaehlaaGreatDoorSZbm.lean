/-
  A range over a closure that hands out what lies in memory: the law. Families, plainly: how many there are; what waits. families: all nodes below a node, each once, handed to a function.
-/
import Derived.Test.YtmnmaenmoaehlaaGreatDoorSZbl
import Derived.RangeFuncNested
import Derived.RangeFuncBound
import Derived.RegionIn
import Derived.RangeFuncBox
namespace Go.Proofs.YtmnmaenmoaehlaaGreatDoor
open Go.RowKit Go.Lib

theorem wpIn_rangeFam {P : Program} {F : Fence} {n : Nat} {α : Type} {g : Operand} {ps : Array Tmp} {assign body : Code} {Q : Exit → Act → World → Prop} {a : Act} {w : World}
    (hro : F.round = none) (h1 : 1 ≤ n) {gf : Nat} {lb : Array Value} (hg : a.eval g = .func (.func gf) #[] lb) (hFg : F.fn gf) (eg : ∀ args w, (callFunc gf args).run P w = .ok (.enter gf args) w)
    {encs : α → Array Value} (hps : ∀ x, (encs x).size = ps.size) {A : α → World → Prop} (hAp : ∀ x W l o r, W.heap[l]? = some (.loop r) → A x W → A x (W.putObj l o)) (hAb : ∀ x W W', A x W → Below W.heap.size W W' → A x W') {ok : α → Bool} {all : Bool}
    (hseq : ∀ (l : Nat) (J Jx : World → Prop) (W : World), w.heap.size ≤ l → l < W.heap.size → Below w.heap.size w W → (∀ A B, J A → Below W.heap.size A B → J B) → (∀ A, J A → ∃ r, A.heap[l]? = some (.loop r)) →
      (∀ x W1, A x W1 → J W1 → YieldAt F (n - 1 - 1) P l (encs x) W1 fun e W' => (e = .returned (.bool true) ∧ ok x = true ∧ J W' ∧ Mod (· = l) W1 W') ∨ (e = .returned (.bool false) ∧ ok x = false ∧ Jx W')) → J W →
      CallsIn F (n - 1) P gf (#[.func (.yield l) #[] #[]] ++ lb) W fun e W' => (∃ v, e = .returned v) ∧ ((all = true ∧ J W') ∨ (all = false ∧ Jx W')))
    {E : World → Prop} (hEp : ∀ W l o, w.heap.size ≤ l → E W → E (W.putObj l o)) (ob : α → Obj) (a₁ : α → Nat → Act)
    (hassign : ∀ (l : Nat) (x : α) (W : World) (K : Act → World → Prop), K (a₁ x W.heap.size) (W.alloc (ob x)) →
      assign.wpIn (F.inRound l) (n - 1 - 1) P (Exit.then K (fun _ _ _ => False)) { tmps := (ps.zip (encs x)).foldl (fun t (p, v) => t.setIfInBounds p v) a.tmps, defers := [] } W)
    (hbody : ∀ (l : Nat) (x : α) (b : Nat) (W : World), w.heap.size ≤ l → l < b → W.heap.size = b + 1 → W.heap[b]? = some (ob x) → A x W → Below w.heap.size w W →
      body.wpIn (F.inRound l) (n - 1 - 1) P (fun e _ W' => (e = .normal ∧ ok x = true ∧ Below W.heap.size W W') ∨ (e = .ret ∧ ok x = false ∧ KeepsFrom w.heap.size W W' ∧ E W')) (a₁ x b) W)
    (hdone : all = true → ∀ (D : Nat) (W : World), w.heap.size ≤ D → Below w.heap.size w W → W.heap[D]? = some (.deferred (some [])) → Q .normal { a with defers := { target := .collected D, args := #[] } :: a.defers } W)
    (hstop : all = false → ∀ (D : Nat) (W : World), w.heap.size ≤ D → E W → W.heap[D]? = some (.deferred (some [])) → Code.ret.wpIn F n P Q { a with defers := { target := .collected D, args := #[] } :: a.defers } W) :
    (Code.rangeFunc g ps assign body).wpIn F n P Q a w := by
  refine wpIn_rangeFunc ?_
  intro fn hfn
  rw [hro]
  obtain ⟨rec, hrec⟩ : ∃ rec : LoopState → Option Code → Loop, rec = fun st pe => { state := st, pending := pe, fn, tmps := a.tmps, params := ps, assign, body, defers := w.heap.size } := ⟨_, rfl⟩
  obtain ⟨W1, hW1⟩ : ∃ W1, (w.alloc (.deferred (some []))).alloc (.loop (rec .ready none)) = W1 := ⟨_, rfl⟩
  have hL1 : W1.heap[w.heap.size + 1]? = some (.loop (rec .ready none)) := by
    rw [← hW1]; have := World.alloc_heap_new (w.alloc (.deferred (some []))) (.loop (rec .ready none)); rwa [World.size_alloc] at this
  have hK1 : W1.heap[w.heap.size]? = some (.deferred (some [])) := by
    rw [← hW1]; exact (Below.heap_alloc _ _ _ (by simp)).trans (World.alloc_heap_new w _)
  have hb1 : Below w.heap.size w W1 := by rw [← hW1]; exact ((Below.refl _ w).alloc (Nat.le_refl _) _).alloc (by simp) _
  refine ⟨w.heap.size + 1, [{ target := .collected w.heap.size, args := #[] }], W1, { target := .fn (.func gf) lb, args := #[.func (.yield (w.heap.size + 1)) #[] #[]] }, W1, gf,
    #[.func (.yield (w.heap.size + 1)) #[] #[]] ++ lb, W1, ?_, ?_, ?_, ?_, fun _ => h1, ?_⟩
  · rw [← hW1, hrec]; exact run_enterLoop_outer _ _ _ _ _
  · simp only [resolve, hg]
    simp [go_sem]
  · intro f' hf'; simp [Target.leads] at hf'; subst hf'; exact hFg
  · simp [invoke, go_sem, eg]
  · have hpB : ∀ {A : World} (o : Obj), Below w.heap.size w A → Below w.heap.size w (A.putObj (w.heap.size + 1) o) := fun {A} o hA => ⟨hA.os, hA.tape, hA.output, by rw [World.putObj_size]; exact hA.size, fun k hk => (World.putObj_heap_other (by omega)).trans (hA.block k hk)⟩
    refine (hseq (w.heap.size + 1)
      (fun W => Below w.heap.size w W ∧ W.heap[w.heap.size + 1]? = some (.loop (rec .ready none)) ∧ W.heap[w.heap.size]? = some (.deferred (some [])))
      (fun W => E W ∧ W.heap[w.heap.size + 1]? = some (.loop (rec .done (some .ret))) ∧ W.heap[w.heap.size]? = some (.deferred (some [])))
      W1 (by omega) (lt_of_block hL1) hb1
      (fun A B hs hm => ⟨hs.1.trans (hm.mono hb1.size), (hm.block _ (lt_of_block hL1)).trans hs.2.1, (hm.block _ (lt_of_block hK1)).trans hs.2.2⟩)
      (fun A hs => ⟨_, hs.2.1⟩)
      ?_ ⟨hb1, hL1, hK1⟩).mono ?_
    · rintro x W hax ⟨hi, hl, hk⟩
      have hlt : w.heap.size + 1 < W.heap.size := lt_of_block hl
      have hy := run_yield (P := P) (args := encs x) hl (by rw [hrec]; exact hps x)
      rw [hrec] at hy
      have hA2 : Below W.heap.size W (W.alloc (ob x)) := (Below.refl _ _).alloc (Nat.le_refl _) _
      have hla : (W.alloc (ob x)).heap[w.heap.size + 1]? = some (.loop (rec .ready none)) := (hA2.block _ hlt).trans hl
      have hka : (W.alloc (ob x)).heap[w.heap.size]? = some (.deferred (some [])) := (hA2.block _ (by omega)).trans hk
      have hlta : w.heap.size + 1 < (W.alloc (ob x)).heap.size := lt_of_block hla
      refine ⟨fn, _, assign, body, hy, roundIn_of_wpIn hfn (hassign _ x W _ ⟨_, run_beginRound hla (by rw [hrec]), ?_⟩)⟩
      obtain ⟨W2, hW2⟩ : ∃ W2, (W.alloc (ob x)).putObj (w.heap.size + 1) (.loop { rec .ready none with state := .busy }) = W2 := ⟨_, rfl⟩
      have hs2 : W2.heap.size = W.heap.size + 1 := by rw [← hW2, World.putObj_size, World.size_alloc]
      have hl2 : W2.heap[w.heap.size + 1]? = some (.loop { rec .ready none with state := .busy }) := by rw [← hW2]; exact World.putObj_heap_same hlta
      have hk2 : W2.heap[w.heap.size]? = some (.deferred (some [])) := by rw [← hW2]; exact (World.putObj_heap_other (by omega)).trans hka
      have ho2 : W2.heap[W.heap.size]? = some (ob x) := by rw [← hW2]; exact (World.putObj_heap_other (by omega)).trans (World.alloc_heap_new W _)
      have hA3 : A x W2 := by rw [← hW2]; exact hAp x _ _ _ _ hla (hAb x _ _ hax hA2)
      have hB2 : Below w.heap.size w W2 := by rw [← hW2]; exact hpB _ (hi.trans (hA2.mono hi.size))
      have hm2 : Mod (· = w.heap.size + 1) W W2 := by
        rw [← hW2]
        exact ⟨rfl, rfl, rfl, by rw [World.putObj_size, World.size_alloc]; omega, fun k hk hne => (World.putObj_heap_other hne).trans (hA2.block k hk)⟩
      have hbd := hbody (w.heap.size + 1) x W.heap.size W2 (by omega) hlt hs2 ho2 hA3 hB2
      rw [← hW2] at hbd
      refine wpIn_mono hbd ?_
      rw [hW2]
      rintro e a3 W3 (⟨rfl, hok, hb3⟩ | ⟨rfl, hok, hk3, he3⟩)
      · have hl3 := (hb3.block _ (lt_of_block hl2)).trans hl2
        have hr := run_endRound (P := P) none hl3
        rw [hrec] at hr
        refine ⟨_, _, hr, .inl ⟨rfl, hok, ⟨hpB _ (hB2.trans (hb3.mono hB2.size)), ?_, ?_⟩, ?_⟩⟩
        · rw [hrec]; exact World.putObj_heap_same (lt_of_block hl3)
        · exact (World.putObj_heap_other (by omega)).trans ((hb3.block _ (lt_of_block hk2)).trans hk2)
        · refine hm2.trans ⟨hb3.os, hb3.tape, hb3.output, by rw [World.putObj_size]; exact hb3.size, fun k hk hne => (World.putObj_heap_other hne).trans (hb3.block k hk)⟩
      · have hl3 := hk3.same _ _ (by omega) hl2 rfl
        have hr := run_endRound (P := P) (some .ret) hl3
        rw [hrec] at hr
        refine ⟨_, _, hr, .inr ⟨rfl, hok, hEp _ _ _ (by omega) he3, ?_, ?_⟩⟩
        · rw [hrec]; exact World.putObj_heap_same (lt_of_block hl3)
        · exact (World.putObj_heap_other (by omega)).trans (hk3.same _ _ (Nat.le_refl _) hk2 rfl)
    · rintro e W2 ⟨⟨v, rfl⟩, (⟨hall, hi, hl, hk⟩ | ⟨hall, hi, hl, hk⟩)⟩
      · exact ⟨none, _, by have := run_endLoop (P := P) hl (by rw [hrec]; simp); rw [hrec] at this; exact this, hdone hall _ _ (Nat.le_refl _) (hpB _ hi) ((World.putObj_heap_other (by omega)).trans hk)⟩
      · exact ⟨some .ret, _, by have := run_endLoop (P := P) hl (by rw [hrec]; simp); rw [hrec] at this; exact this, hstop hall _ _ (Nat.le_refl _) (hEp _ _ _ (by omega) hi) ((World.putObj_heap_other (by omega)).trans hk)⟩
end Go.Proofs.YtmnmaenmoaehlaaGreatDoor

namespace Go.Proofs.YtmnmaenmoaehlaaGreatDoor
open Go.RowKit Go.Lib

/-- A node and all that is below it. -/
def visK (os : List OneM) : Nat → Nat → List Nat
  | 0, _ => []
  | n + 1, i => match os[i]? with
    | none => []
    | some o => i :: o.kids.flatMap fun k => visK os n k
theorem visK_at {os : List OneM} {i : Nat} {o : OneM} (h : os[i]? = some o) (n : Nat) : visK os (n + 1) i = i :: o.kids.flatMap fun k => visK os n k := by rw [visK, h]
theorem visK_path {ns : List NodeM} {os : List OneM} (hs : Sim ns os) : ∀ (n i : Nat) (o : OneM) (path : List Nat), os[i]? = some o → PathOf (upO os) i (i :: path) → ∀ k ∈ visK os n i, ∃ x, PathOf (upO os) k (x ++ i :: path) ∧ (k = i ∨ x ≠ []) ∧ ∃ c, os[k]? = some c := by
  intro n
  induction n with
  | zero => intro i o path _ _ k hk; simp [visK] at hk
  | succ n ih =>
    intro i o path ho hp k hk
    rw [visK_at ho] at hk
    rcases List.mem_cons.1 hk with rfl | hk
    · exact ⟨[], hp, .inl rfl, o, ho⟩
    · rw [List.mem_flatMap] at hk
      obtain ⟨a, ha, hk⟩ := hk
      obtain ⟨c, hc, hpa⟩ := kid_down hs ho hp ha
      obtain ⟨y, hy, _, hc'⟩ := ih a c _ hc hpa k hk
      exact ⟨y ++ [a], by rw [List.append_assoc]; exact hy, .inr (by simp), hc'⟩
theorem visK_nodup {ns : List NodeM} {os : List OneM} (hs : Sim ns os) : ∀ (n i : Nat) (o : OneM) (path : List Nat), os[i]? = some o → PathOf (upO os) i (i :: path) → (visK os n i).Nodup := by
  intro n
  induction n with
  | zero => intro i o path _ _; simp [visK]
  | succ n ih =>
    intro i o path ho hp
    rw [visK_at ho]
    have key : ∀ a ∈ o.kids, ∀ k ∈ visK os n a, ∃ x, PathOf (upO os) k (x ++ a :: i :: path) := by
      intro a ha k hk
      obtain ⟨c, hc, hpa⟩ := kid_down hs ho hp ha
      obtain ⟨y, hy, _⟩ := visK_path hs n a c _ hc hpa k hk
      exact ⟨y, hy⟩
    refine List.nodup_cons.2 ⟨fun hm => ?_, ?_⟩
    · rw [List.mem_flatMap] at hm
      obtain ⟨a, ha, hk⟩ := hm
      obtain ⟨y, hy⟩ := key a ha i hk
      have e := congrArg List.length (path_one hp hy)
      simp only [List.length_cons, List.length_append] at e
      omega
    · have gen : ∀ l : List Nat, l.Nodup → (∀ a ∈ l, a ∈ o.kids) → (l.flatMap fun k => visK os n k).Nodup := by
        intro l
        induction l with
        | nil => intro _ _; simp
        | cons a l ihl =>
          intro hn hm
          rw [List.flatMap_cons, List.nodup_append]
          obtain ⟨c, hc, hpa⟩ := kid_down hs ho hp (hm a (by simp))
          refine ⟨ih a c _ hc hpa, ihl (List.nodup_cons.1 hn).2 (fun b hb => hm b (by simp [hb])), ?_⟩
          intro x hx y hy e
          subst e
          rw [List.mem_flatMap] at hy
          obtain ⟨b, hb, hxb⟩ := hy
          obtain ⟨p1, h1⟩ := key a (hm a (by simp)) x hx
          obtain ⟨p2, h2⟩ := key b (hm b (by simp [hb])) x hxb
          have e := path_one h1 h2
          have e2 := congrArg (fun z => z.reverse[path.length + 1]?) e
          simp at e2
          subst e2
          exact (List.nodup_cons.1 hn).1 hb
      exact gen _ (hs.kids i o ho).nodup (fun a ha => ha)
theorem visK_few {ns : List NodeM} {os : List OneM} (hs : Sim ns os) (n i : Nat) (o : OneM) (path : List Nat) (ho : os[i]? = some o) (hp : PathOf (upO os) i (i :: path)) : (visK os n i).length ≤ os.length :=
  nodup_few _ _ (visK_nodup hs n i o path ho hp) (fun x hx => by
    obtain ⟨_, _, _, c, hc⟩ := visK_path hs n i o path ho hp x hx
    exact (List.getElem?_eq_some_iff.1 hc).1)

/-- A node that waits: what was told of it, its number, how deep it is. -/
structure FamE where
  n : NodeM
  i : Nat
  d : Nat
def FamE.cells (x : FamE) : List Value := x.n.cells ++ [.slice none 0 0, .int .i64 x.d]
def famRow (l : List FamE) : List Value := l.flatMap FamE.cells
theorem fam_len (x : FamE) : x.cells.length = 14 := rfl
theorem famRow_app (a b : List FamE) : famRow (a ++ b) = famRow a ++ famRow b := by simp [famRow]
theorem famRow_one (x : FamE) : famRow [x] = x.cells := by simp [famRow]
theorem famRow_len (l : List FamE) : (famRow l).length = l.length * 14 := by
  induction l with
  | nil => rfl
  | cons x l ih => rw [show famRow (x :: l) = x.cells ++ famRow l from by simp [famRow], List.length_append, ih, fam_len, List.length_cons]; omega
structure GE (ns : List NodeM) (os : List OneM) (x : FamE) : Prop where
  node : ∃ nk o, ns[x.i]? = some nk ∧ os[x.i]? = some o ∧ x.n = { nk with av := x.n.av }
  path : ∃ path, PathOf (upO os) x.i (x.i :: path) ∧ path.length = x.d
def sizeE (os : List OneM) (x : FamE) : Nat := (visK os (os.length - x.d) x.i).length
def sizeL (os : List OneM) (l : List FamE) : Nat := (l.map (sizeE os)).sum
def okE (os : List OneM) (x : FamE) : Bool := famF os (os.length + 5 - x.d) x.i x.d
theorem GE.deep {ns : List NodeM} {os : List OneM} {x : FamE} (h : GE ns os x) : x.d < os.length := by
  obtain ⟨path, hp, hl⟩ := h.path
  have := nodup_few os.length _ (path_nodup hp) (path_in hp)
  simp only [List.length_cons] at this
  omega
/-- A node's share: itself and its children's. -/
theorem sizeE_kids {ns : List NodeM} {os : List OneM} {x : FamE} (h : GE ns os x) {o : OneM} (ho : os[x.i]? = some o) (l : List FamE) (hl : l.length = o.kids.length) (hk : ∀ (j : Nat) y, l[j]? = some y → o.kids[j]? = some y.i ∧ y.d = x.d + 1) : sizeE os x = 1 + sizeL os l := by
  have hd := h.deep
  unfold sizeE
  obtain ⟨f, hf⟩ : ∃ f, os.length - x.d = f + 1 := ⟨os.length - x.d - 1, by omega⟩
  rw [hf, visK_at ho, List.length_cons, List.length_flatMap]
  have e : o.kids = l.map (·.i) := by
    apply List.ext_getElem?
    intro j
    rw [List.getElem?_map]
    cases hj : l[j]? with
    | none => rw [List.getElem?_eq_none (by rw [← hl]; exact List.getElem?_eq_none_iff.1 hj)]; rfl
    | some y => exact (hk j y hj).1
  rw [e, List.map_map]
  have : l.map ((fun k => (visK os f k).length) ∘ (·.i)) = l.map (sizeE os) := by
    refine List.map_congr_left fun y hy => ?_
    obtain ⟨j, hj⟩ := List.getElem?_of_mem hy
    have hy2 := (hk j y hj).2
    show (visK os f y.i).length = (visK os (os.length - y.d) y.i).length
    rw [hy2, show os.length - (x.d + 1) = f by omega]
  rw [this]
  unfold sizeL
  omega
theorem okE_kids {ns : List NodeM} {os : List OneM} {x : FamE} (h : GE ns os x) {o : OneM} (ho : os[x.i]? = some o) (l : List FamE) (hl : l.length = o.kids.length) (hk : ∀ (j : Nat) y, l[j]? = some y → o.kids[j]? = some y.i ∧ y.d = x.d + 1) : okE os x = (famOk os o x.d && l.all (okE os)) := by
  have hd := h.deep
  unfold okE
  obtain ⟨f, hf⟩ : ∃ f, os.length + 5 - x.d = f + 1 := ⟨os.length + 5 - x.d - 1, by omega⟩
  rw [hf, famF_at ho]
  congr 1
  have e : o.kids = l.map (·.i) := by
    apply List.ext_getElem?
    intro j
    rw [List.getElem?_map]
    cases hj : l[j]? with
    | none => rw [List.getElem?_eq_none (by rw [← hl]; exact List.getElem?_eq_none_iff.1 hj)]; rfl
    | some y => exact (hk j y hj).1
  rw [e, List.all_map]
  have key : ∀ m : List FamE, (∀ y ∈ m, y ∈ l) → (m.all ((fun k => famF os f k (x.d + 1)) ∘ (·.i))) = m.all (fun y => famF os (os.length + 5 - y.d) y.i y.d) := by
    intro m
    induction m with
    | nil => intro _; rfl
    | cons y m ih =>
      intro hm
      obtain ⟨j, hj⟩ := List.getElem?_of_mem (hm y (by simp))
      have hy2 := (hk j y hj).2
      rw [List.all_cons, List.all_cons, ih (fun z hz => hm z (by simp [hz]))]
      show (famF os f y.i (x.d + 1) && _) = _
      rw [hy2, show os.length + 5 - (x.d + 1) = f by omega]
  exact key l (fun y hy => hy)
theorem sizeL_app (os : List OneM) (a b : List FamE) : sizeL os (a ++ b) = sizeL os a + sizeL os b := by simp [sizeL]
theorem sizeE_pos {ns : List NodeM} {os : List OneM} {x : FamE} (h : GE ns os x) : 1 ≤ sizeE os x := by
  have hd := h.deep
  obtain ⟨nk, o, _, ho, _⟩ := h.node
  unfold sizeE
  obtain ⟨f, hf⟩ : ∃ f, os.length - x.d = f + 1 := ⟨os.length - x.d - 1, by omega⟩
  rw [hf, visK_at ho, List.length_cons]
  omega
theorem size_len {ns : List NodeM} {os : List OneM} : ∀ (l : List FamE), (∀ x ∈ l, GE ns os x) → l.length ≤ sizeL os l
  | [], _ => Nat.zero_le _
  | x :: l, h => by
    have h1 := sizeE_pos (h x (by simp))
    have h2 := size_len l (fun y hy => h y (by simp [hy]))
    have e : sizeL os (x :: l) = sizeE os x + sizeL os l := by simp [sizeL]
    rw [e, List.length_cons]
    omega
end Go.Proofs.YtmnmaenmoaehlaaGreatDoor

namespace Go.Proofs.YtmnmaenmoaehlaaGreatDoor
open Go.RowKit Go.Lib

/-- What is handed out: a node, its children. -/
structure FamX where
  x : FamE
  a : Option Addr
  cap : Nat
  l : List NodeM
  ka : Option Addr
  kc : Nat
def famC (y : FamX) : Array Value := #[.int .i64 y.x.n.kind, .int .i64 y.x.n.space, .string y.x.n.name, .slice y.a y.x.n.attrs.length y.cap, .string y.x.n.data, .string y.x.n.system, .int .i64 y.x.n.parent, .int .i64 y.x.n.first, .int .i64 y.x.n.last, .int .i64 y.x.n.prev, .int .i64 y.x.n.next, .int .i64 y.x.n.inner, .slice y.ka y.l.length y.kc, .int .i64 y.x.d]
structure AX (ns : List NodeM) (os : List OneM) (y : FamX) (W : World) : Prop where
  row : RowIn W y.ka y.l
  attrs : AttrsIn W y.a y.x.n.attrs
  ge : GE ns os y.x
  kids : ∃ o, os[y.x.i]? = some o ∧ KidL ns o.kids y.l
def ownN (r : Int) (n : NodeM) : Bool :=
  if r == 0 then false else if r == 9 then okText n.data else if r == 10 then okComP n.data else if decide (r ≤ 4) then n.attrs.length == 0 else attrsOk n.attrs
def okX (y : FamX) : Bool := decide (y.x.d ≤ 200) && (ownN (roleM y.x.n) y.x.n && kidsR (roleM y.x.n) (y.l.map roleM))
theorem roleM_O {n : NodeM} {o : OneM} (h : Same n o) : roleM n = roleO o := by
  unfold roleM roleO
  rw [h.kind, h.space, h.inner, h.name]
theorem roleM_av (n : NodeM) (v : Value) : roleM { n with av := v } = roleM n := rfl
theorem ownN_R {n : NodeM} {o : OneM} (h : Same n o) (r : Int) : ownN r n = ownR r o := by
  unfold ownN ownR
  rw [h.data, h.attrs]
theorem GE.same {ns : List NodeM} {os : List OneM} {x : FamE} (h : GE ns os x) (hs : Sim ns os) {o : OneM} (ho : os[x.i]? = some o) : Same x.n o := by
  obtain ⟨nk, o', hn, ho', e⟩ := h.node
  rw [ho] at ho'
  cases ho'
  have := hs.same x.i nk o hn ho
  rw [e]
  exact ⟨this.kind, this.space, this.name, this.data, this.system, this.inner, this.attrs, this.up⟩
theorem roles_kids {ns : List NodeM} {os : List OneM} (hs : Sim ns os) {K : List Nat} {l : List NodeM} (h : KidL ns K l) : l.map roleM = K.map (roleAt os) := by
  apply List.ext_getElem?
  intro j
  rw [List.getElem?_map, List.getElem?_map]
  cases hk : K[j]? with
  | none => rw [List.getElem?_eq_none (by rw [h.1]; exact List.getElem?_eq_none_iff.1 hk)]; rfl
  | some k =>
    obtain ⟨n, nk, hn, hnk, e⟩ := h.2 j k hk
    obtain ⟨o, ho, hso⟩ := hs.getO hnk
    rw [hn]
    show some (roleM n) = some (roleAt os k)
    rw [e, roleM_av, roleM_O hso]
    unfold roleAt
    rw [ho]
theorem okX_fam {ns : List NodeM} {os : List OneM} (hs : Sim ns os) {y : FamX} (hg : GE ns os y.x) {o : OneM} (ho : os[y.x.i]? = some o) (hk : KidL ns o.kids y.l) : okX y = famOk os o y.x.d := by
  have hsm := hg.same hs ho
  unfold okX famOk
  rw [roles_kids hs hk, roleM_O hsm, ownN_R hsm]
/-- The elements that a node's children make. -/
def kidsE (l : List NodeM) (K : List Nat) (d : Nat) : List FamE := (l.zip K).map fun p => ⟨p.1, p.2, d + 1⟩
theorem kidsE_get {l : List NodeM} {K : List Nat} {d j : Nat} {y : FamE} (h : (kidsE l K d)[j]? = some y) : ∃ n k, l[j]? = some n ∧ K[j]? = some k ∧ y = ⟨n, k, d + 1⟩ := by
  unfold kidsE at h
  rw [List.getElem?_map] at h
  cases hz : (l.zip K)[j]? with
  | none => rw [hz] at h; cases h
  | some p =>
    rw [hz] at h
    have e := List.getElem?_zip_eq_some.1 hz
    exact ⟨p.1, p.2, e.1, e.2, by simpa using h.symm⟩
theorem kidsE_len {l : List NodeM} {K : List Nat} {d : Nat} (h : l.length = K.length) : (kidsE l K d).length = K.length := by simp [kidsE, h]
theorem kidsE_ge {ns : List NodeM} {os : List OneM} (hs : Sim ns os) {x : FamE} (hx : GE ns os x) {o : OneM} (ho : os[x.i]? = some o) {l : List NodeM} (hk : KidL ns o.kids l) {y : FamE} (hy : y ∈ kidsE l o.kids x.d) : GE ns os y := by
  obtain ⟨j, hj⟩ := List.getElem?_of_mem hy
  obtain ⟨n, k, hn, hkk, rfl⟩ := kidsE_get hj
  obtain ⟨n', nk, hn', hnk, e⟩ := hk.2 j k hkk
  rw [hn] at hn'
  cases hn'
  obtain ⟨path, hp, hl⟩ := hx.path
  obtain ⟨c, hc, hpc⟩ := kid_down hs ho hp (List.mem_of_getElem? hkk)
  exact ⟨⟨nk, c, hnk, hc, e⟩, ⟨x.i :: path, hpc, by simp [hl]⟩⟩
theorem attrs_own {w w' : World} {base l : Nat} {v : Value} {m : List AttrM} (h : w.ownsRow base 93 4 v m.length (attrRow m)) (hl : ∃ r, w.heap[l]? = some (.loop r)) (hm : Mod (· = l) w w') : w'.ownsRow base 93 4 v m.length (attrRow m) :=
  ownsRow_kept h (fun k hk => hm.block k (h.lt k hk).2 (fun e => by
    obtain ⟨c1, h1⟩ := ownsRow_block h hk
    obtain ⟨r, hr⟩ := hl
    rw [e] at h1
    rw [hr] at h1
    cases h1))
theorem row_own {w w' : World} {base l n : Nat} {e : TypeId} {s : Nat} {v : Value} {xs : List Value} (h : w.ownsRow base e s v n xs) (hl : ∃ r, w.heap[l]? = some (.loop r)) (hm : Mod (· = l) w w') : w'.ownsRow base e s v n xs :=
  ownsRow_kept h (fun k hk => hm.block k (h.lt k hk).2 (fun e => by
    obtain ⟨c1, h1⟩ := ownsRow_block h hk
    obtain ⟨r, hr⟩ := hl
    rw [e] at h1
    rw [hr] at h1
    cases h1))
theorem least_of {β : Type} (R : Nat → Value → β → Prop) : ∃ mu : Value → β → Nat, ∀ p w, (∃ k, R k p w) → R (mu p w) p w ∧ ∀ k, R k p w → mu p w ≤ k := by
  have h : ∀ p : Value × β, ∃ m, (∃ k, R k p.1 p.2) → R m p.1 p.2 ∧ ∀ k, R k p.1 p.2 → m ≤ k := fun p => by
    by_cases hk : ∃ k, R k p.1 p.2
    · obtain ⟨k, hk⟩ := hk
      have : ∀ n, ∀ k ≤ n, R k p.1 p.2 → ∃ m, R m p.1 p.2 ∧ ∀ j, R j p.1 p.2 → m ≤ j := by
        intro n
        induction n with
        | zero => intro k hk0 hr; exact ⟨k, hr, fun j _ => by omega⟩
        | succ n ih =>
          intro k hkn hr
          by_cases hx : ∃ j, j ≤ n ∧ R j p.1 p.2
          · obtain ⟨j, hj, hrj⟩ := hx; exact ih j hj hrj
          · exact ⟨k, hr, fun j hj => by
              by_cases hjn : j ≤ n
              · exact absurd ⟨j, hjn, hj⟩ hx
              · omega⟩
      obtain ⟨m, hm⟩ := this k k (Nat.le_refl _) hk
      exact ⟨m, fun _ => hm⟩
    · exact ⟨0, fun h => absurd h hk⟩
  obtain ⟨f, hf⟩ := Classical.axiomOfChoice h
  exact ⟨fun p w => f (p, w), fun p w hk => hf (p, w) hk⟩
end Go.Proofs.YtmnmaenmoaehlaaGreatDoor
