/-
  A range over a method value whose calls write the receiver: the law; all attributes of a tag, plain.
-/
import Derived.Test.YtmikcdmlhocgbaaDoorSl
import Derived.RangeFuncNested
import Derived.RegionIn
import Derived.RangeFuncBox
namespace Go.Proofs.YtmikcdmlhocgbaaDoor
open Go.RowKit Go.Lib

theorem wpIn_rangeBound {P : Program} {F : Fence} {n N : Nat} {α : Type} {g : Operand} {ps : Array Tmp} {assign body : Code} {Q : Exit → Act → World → Prop} {a : Act} {w : World}
    (hro : F.round = none) (h1 : 1 ≤ n) {gf : Nat} {rv : Value} (hg : a.eval g = .func (.func gf) #[rv] #[]) (hFg : F.fn gf) (eg : ∀ args w, (callFunc gf args).run P w = .ok (.enter gf args) w)
    {encs : α → Array Value} (hps : ∀ x, (encs x).size = ps.size) {b : Nat} (hbw : b < w.heap.size) {xs : List α} {E : World → Prop} {A : α → Prop}
    (hseq : ∀ (l : Nat) (J : List α → World → Prop) (W : World), w.heap.size ≤ l → Below w.heap.size w W → (∀ pre A B, J pre A → Mod (· = b) A B → J pre B) →
      (∀ pre x W1, A x → J pre W1 → pre.length < N → YieldAt F (n - 1 - 1) P l (encs x) W1 fun e W' => e = .returned (.bool true) ∧ J (pre ++ [x]) W' ∧ W'.heap[b]? = W1.heap[b]?) → J [] W →
      CallsIn F (n - 1) P gf #[rv, .func (.yield l) #[] #[]] W fun e W' => (∃ v, e = .returned v) ∧ J xs W' ∧ E W')
    (I : List α → World → Prop) (hIm : ∀ pre A B, I pre A → Mod (· = b) A B → I pre B) (hIp : ∀ pre W l o, w.heap.size ≤ l → (∃ r, W.heap[l]? = some (.loop r)) → I pre W → I pre (W.putObj l o)) (hEp : ∀ W l o, w.heap.size ≤ l → E W → E (W.putObj l o))
    (h0 : I [] w) (a₁ : α → Act)
    (hassign : ∀ (l : Nat) (x : α) (W : World) (K : Act → World → Prop), K (a₁ x) W →
      assign.wpIn (F.inRound l) (n - 1 - 1) P (Exit.then K (fun _ _ _ => False)) { tmps := (ps.zip (encs x)).foldl (fun t (p, v) => t.setIfInBounds p v) a.tmps, defers := [] } W)
    (hbody : ∀ (l : Nat) (pre : List α) (x : α) (W : World), w.heap.size ≤ l → A x → I pre W → pre.length < N → body.wpIn (F.inRound l) (n - 1 - 1) P (fun e _ W' => e = .normal ∧ KeepsFrom w.heap.size W W' ∧ W'.heap[b]? = W.heap[b]? ∧ I (pre ++ [x]) W') (a₁ x) W)
    (hdone : ∀ (D : Nat) (W : World), w.heap.size ≤ D → I xs W → E W → W.heap[D]? = some (.deferred (some [])) → Q .normal { a with defers := { target := .collected D, args := #[] } :: a.defers } W) :
    (Code.rangeFunc g ps assign body).wpIn F n P Q a w := by
  refine wpIn_rangeFunc ?_
  intro fn hfn
  rw [hro]
  obtain ⟨rec, hrec⟩ : ∃ rec : LoopState → Option Code → Loop, rec = fun st pe => { state := st, pending := pe, fn, tmps := a.tmps, params := ps, assign, body, defers := w.heap.size } := ⟨_, rfl⟩
  obtain ⟨W1, hW1⟩ : ∃ W1, (w.alloc (.deferred (some []))).alloc (.loop (rec .ready none)) = W1 := ⟨_, rfl⟩
  have hL1 : W1.heap[w.heap.size + 1]? = some (.loop (rec .ready none)) := by
    rw [← hW1]; have := World.alloc_heap_new (w.alloc (.deferred (some []))) (.loop (rec .ready none)); rwa [World.size_alloc] at this
  have hK1 : W1.heap[w.heap.size]? = some (.deferred (some [])) := by
    rw [← hW1]; exact (Below.heap_alloc _ _ _ (by simp)).trans (World.alloc_heap_new w _)
  have hb1 : Below w.heap.size w W1 := by rw [← hW1]; exact ((Below.refl _ w).alloc (Nat.le_refl _) _).alloc (by simp) _
  have hI1 : I [] W1 := hIm [] w W1 h0 (Mod.of_below hb1)
  refine ⟨w.heap.size + 1, [{ target := .collected w.heap.size, args := #[] }], W1, { target := .fn (.func gf) #[], args := #[rv, .func (.yield (w.heap.size + 1)) #[] #[]] }, W1, gf,
    #[rv, .func (.yield (w.heap.size + 1)) #[] #[]], W1, ?_, ?_, ?_, ?_, fun _ => h1, ?_⟩
  · rw [← hW1, hrec]; exact run_enterLoop_outer _ _ _ _ _
  · simp only [resolve, hg]
    simp [go_sem]
  · intro f' hf'; simp [Target.leads] at hf'; subst hf'; exact hFg
  · simp [invoke, go_sem, eg]
  · refine (hseq (w.heap.size + 1)
      (fun pre W => I pre W ∧ W.heap[w.heap.size + 1]? = some (.loop (rec .ready none)) ∧ W.heap[w.heap.size]? = some (.deferred (some [])))
      W1 (by omega) hb1
      (fun pre A B hs hm => ⟨hIm pre A B hs.1 hm, (hm.block _ (Array.getElem?_eq_some_iff.1 hs.2.1).1 (by omega)).trans hs.2.1, (hm.block _ (Array.getElem?_eq_some_iff.1 hs.2.2).1 (by omega)).trans hs.2.2⟩)
      ?_ ⟨hI1, hL1, hK1⟩).mono ?_
    · rintro pre x W hax ⟨hi, hl, hk⟩ hlen
      have hlt : w.heap.size + 1 < W.heap.size := (Array.getElem?_eq_some_iff.1 hl).1
      have hy := run_yield (P := P) (args := encs x) hl (by rw [hrec]; exact hps x)
      rw [hrec] at hy
      refine ⟨fn, _, assign, body, hy, roundIn_of_wpIn hfn (hassign _ x W _ ⟨_, run_beginRound hl (by rw [hrec]), ?_⟩)⟩
      have hl2 : (W.putObj (w.heap.size + 1) (.loop { rec .ready none with state := .busy })).heap[w.heap.size + 1]? = some (.loop { rec .ready none with state := .busy }) := World.putObj_heap_same hlt
      have hk2 : (W.putObj (w.heap.size + 1) (.loop { rec .ready none with state := .busy })).heap[w.heap.size]? = some (.deferred (some [])) := (World.putObj_heap_other (by omega)).trans hk
      refine wpIn_mono (hbody _ pre x _ (by omega) hax (hIp pre W _ _ (by omega) ⟨_, hl⟩ hi) hlen) ?_
      rintro e a3 W3 ⟨rfl, hk3, hb3, hi3⟩
      have hl3 := hk3.same _ _ (by omega) hl2 rfl
      have hr := run_endRound (P := P) none hl3
      rw [hrec] at hr
      refine ⟨_, _, hr, rfl, ⟨hIp _ _ _ _ (by omega) ⟨_, hl3⟩ hi3, ?_, ?_⟩, ?_⟩
      · rw [hrec]; exact World.putObj_heap_same (Array.getElem?_eq_some_iff.1 hl3).1
      · exact (World.putObj_heap_other (by omega)).trans (hk3.same _ _ (Nat.le_refl _) hk2 rfl)
      · rw [World.putObj_heap_other (by omega), hb3]
        exact World.putObj_heap_other (by omega)
    · rintro e W2 ⟨⟨v, rfl⟩, ⟨hi, hl, hk⟩, hE⟩
      exact ⟨none, _, by have := run_endLoop (P := P) hl (by rw [hrec]; simp); rw [hrec] at this; exact this, hdone _ _ (Nat.le_refl _) (hIp _ _ _ _ (by omega) ⟨_, hl⟩ hi) (hEp _ _ _ (by omega) hE) ((World.putObj_heap_other (by omega)).trans hk)⟩

/-- All attributes from a place on, and the place behind. -/
def attrsF (l : List UInt8) : Nat → Nat → List (List UInt8 × List UInt8) × Nat
  | 0, k => ([], k)
  | n + 1, k => match (attrM l k).1 with
    | none => ([], (attrM l k).2)
    | some x => (x :: (attrsF l n (attrM l k).2).1, (attrsF l n (attrM l k).2).2)
def attrsM (l : List UInt8) (k : Nat) : List (List UInt8 × List UInt8) × Nat := attrsF l (l.length + 1 - k) k

theorem passP_stop {p : UInt8 → Bool} {l : List UInt8} : ∀ {n k : Nat}, l.length - k = n → askP p l (passP p l k) = false
  | 0, k, hn => by
    have h : askP p l k = false := by
      unfold askP
      rw [List.getElem?_eq_none (by omega)]
    rw [passP_no h]
    exact h
  | n + 1, k, hn => by
    cases h : askP p l k with
    | true =>
      rw [(passP_yes h).2]
      exact passP_stop (n := n) (by omega)
    | false =>
      rw [passP_no h]
      exact h
theorem sees_one {l : List UInt8} {k : Nat} (hk : k < l.length) (x : UInt8) : seesM l k [x] = (low l[k] == x) := by
  unfold seesM
  rw [List.drop_eq_getElem_cons hk]
  simp only [List.length_singleton, List.take_succ_cons, List.take_zero, List.map_cons, List.map_nil]
  by_cases h : low l[k] = x
  · simp [h]
  · simp [h]
theorem nameP_of {l : List UInt8} {k : Nat} (hk : k < l.length) (hg : askP gapP l k = false) (h62 : seesM l k [62] = false) (h61 : seesM l k [61] = false) : askP nameP l k = true := by
  rw [sees_one hk] at h62 h61
  unfold askP at hg ⊢
  rw [List.getElem?_eq_getElem hk] at hg ⊢
  simp only at hg ⊢
  generalize l[k] = c at hg h62 h61
  unfold gapP at hg
  unfold nameP
  have e62 : c ≠ 62 := fun e => by subst e; exact absurd h62 (by decide)
  have e61 : c ≠ 61 := fun e => by subst e; exact absurd h61 (by decide)
  simp at hg ⊢
  exact ⟨hg.1, hg.2.1, hg.2.2.1, hg.2.2.2.1, hg.2.2.2.2.1, hg.2.2.2.2.2, e62, e61⟩

theorem attr_le {l : List UInt8} {k : Nat} (hk : k ≤ l.length) : k ≤ (attrM l k).2 ∧ (attrM l k).2 ≤ l.length ∧ ((attrM l k).1.isSome = true → k < (attrM l k).2) := by
  have h1 := passP_le (p := gapP) hk
  have hst := passP_stop (p := gapP) (l := l) (k := k) rfl
  unfold attrM attrA
  generalize passP gapP l k = q at h1 hst
  have h2 := nameE_le (l := l) (k := q) h1.2
  cases hgt : seesM l q [62] with
  | true =>
    have := sees_fits hgt (by decide)
    have e : ([62] : List UInt8).length = 1 := rfl
    rw [if_pos rfl]
    simp only
    exact ⟨by omega, by omega, fun h => by cases h⟩
  | false =>
    rw [if_neg (by simp)]
    by_cases hov : l.length ≤ nameE l q
    · rw [if_pos hov]
      simp only
      exact ⟨by omega, h2.2, fun h => by cases h⟩
    · rw [if_neg hov]
      have h3 := passP_le (p := blankP) (l := l) (k := nameE l q) h2.2
      have hname : q < nameE l q := by
        unfold nameE nameS
        cases hs : seesM l q [61] with
        | true =>
          simp only [if_true]
          have h4 := sees_fits hs (by decide)
          have e : ([61] : List UInt8).length = 1 := rfl
          have := passP_le (p := nameP) (l := l) (k := q + 1) (by omega)
          omega
        | false =>
          simp only [Bool.false_eq_true, if_false]
          have hql : q < l.length := by omega
          have := (passP_yes (nameP_of hql hst hgt hs)).2
          have h9 := passP_le (p := nameP) (l := l) (k := q + 1) (by omega)
          omega
      unfold attr4 attr3
      generalize passP blankP l (nameE l q) = k3 at h3
      cases hs3 : seesM l k3 [61] with
      | true =>
        rw [if_pos rfl]
        have h4 := sees_fits hs3 (by decide)
        have e : ([61] : List UInt8).length = 1 := rfl
        have h5 := passP_le (p := blankP) (l := l) (k := k3 + 1) (by omega)
        have h6 := valueE_le (l := l) (k := passP blankP l (k3 + 1)) h5.2
        cases hv : valueO l (passP blankP l (k3 + 1)) with
        | true => rw [if_pos rfl]; simp only; exact ⟨by omega, h6.2, fun _ => by omega⟩
        | false => rw [if_neg (by simp)]; simp only; exact ⟨by omega, h6.2, fun h => by cases h⟩
      | false =>
        rw [if_neg (by simp)]
        simp only
        exact ⟨by omega, h3.2, fun _ => by omega⟩

theorem attrsF_more {l : List UInt8} : ∀ {n m k : Nat}, k ≤ l.length → l.length < n + k → l.length < m + k → attrsF l n k = attrsF l m k
  | 0, _, _, hk, hn, _ => by omega
  | _ + 1, 0, _, hk, _, hm => by omega
  | n + 1, m + 1, k, hk, hn, hm => by
    have h := attr_le hk
    unfold attrsF
    cases e : (attrM l k).1 with
    | none => rfl
    | some x =>
      have h3 := h.2.2 (by rw [e]; rfl)
      rw [attrsF_more (n := n) (m := m) h.2.1 (by omega) (by omega)]
theorem attrsM_none {l : List UInt8} {k : Nat} (hk : k ≤ l.length) (h : (attrM l k).1 = none) : attrsM l k = ([], (attrM l k).2) := by
  unfold attrsM
  rw [show l.length + 1 - k = (l.length - k) + 1 by omega, attrsF, h]
theorem attrsM_some {l : List UInt8} {k : Nat} (hk : k ≤ l.length) {x : List UInt8 × List UInt8} (h : (attrM l k).1 = some x) : attrsM l k = (x :: (attrsM l (attrM l k).2).1, (attrsM l (attrM l k).2).2) := by
  have hle := attr_le hk
  have h3 := hle.2.2 (by rw [h]; rfl)
  unfold attrsM
  rw [show l.length + 1 - k = (l.length - k) + 1 by omega, attrsF, h]
  simp only
  rw [attrsF_more (n := l.length - k) (m := l.length + 1 - (attrM l k).2) hle.2.1 (by omega) (by omega)]
theorem attrsM_le {l : List UInt8} : ∀ {n k : Nat}, l.length - k ≤ n → k ≤ l.length → k ≤ (attrsM l k).2 ∧ (attrsM l k).2 ≤ l.length ∧ (attrsM l k).1.length ≤ l.length - k
  | 0, k, hn, hk => by
    have hle := attr_le hk
    cases e : (attrM l k).1 with
    | none =>
      rw [attrsM_none hk e]
      exact ⟨hle.1, hle.2.1, by simp⟩
    | some x =>
      have h3 := hle.2.2 (by rw [e]; rfl)
      omega
  | n + 1, k, hn, hk => by
    have hle := attr_le hk
    cases e : (attrM l k).1 with
    | none =>
      rw [attrsM_none hk e]
      exact ⟨hle.1, hle.2.1, by simp⟩
    | some x =>
      have h3 := hle.2.2 (by rw [e]; rfl)
      have ih := attrsM_le (l := l) (n := n) (k := (attrM l k).2) (by omega) hle.2.1
      rw [attrsM_some hk e]
      simp only [List.length_cons]
      omega
end Go.Proofs.YtmikcdmlhocgbaaDoor
