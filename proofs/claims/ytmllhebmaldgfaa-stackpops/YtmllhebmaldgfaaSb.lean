/-
  A stack of package stack: what its elements are; what is kept of them, looked at.
-/
import Derived.Test.YtmllhebmaldgfaaSa
namespace Go.Proofs.Ytmllhebmaldgfaa
open Go.RowKit

/-- What the element of a number is called. -/
def elOf (ks : List Key) (id : Int) : Option Cal := match keyAt ks id with
  | some q => if q.kind = 1 then some ⟨q.space, q.name⟩ else none
  | none => none
def calOf (ks : List Key) (id : Int) : Cal := (elOf ks id).getD cal0

theorem elOf_none {ks : List Key} {id : Int} (h : keyAt ks id = none) : elOf ks id = none := by simp [elOf, h]
theorem elOf_key {ks : List Key} {id : Int} {q : Key} (h : keyAt ks id = some q) : elOf ks id = if q.kind = 1 then some ⟨q.space, q.name⟩ else none := by simp [elOf, h]
theorem elOf_nat {ks : List Key} {id : Int} (h : (elOf ks id).isSome = true) : ∃ i : Nat, id = (i : Int) ∧ i < ks.length := by
  cases hk : keyAt ks id with
  | none => rw [elOf_none hk] at h; cases h
  | some q =>
    obtain ⟨i, rfl, hi⟩ := keyAt_some hk
    exact ⟨i, rfl, (List.getElem?_eq_some_iff.1 hi).1⟩

/-- Each number of the stack is an element's, and stands there once. -/
structure Good (ks : List Key) (L : List Int) : Prop where
  nodup : L.Nodup
  el : ∀ x ∈ L, (elOf ks x).isSome = true

theorem Good.nil (ks : List Key) : Good ks [] := ⟨List.nodup_nil, fun x hx => by cases hx⟩
theorem Good.len {ks : List Key} {L : List Int} (h : Good ks L) : L.length ≤ ks.length := by
  have h1 : (L.map Int.toNat).Nodup := by
    have key : ∀ l : List Int, l.Nodup → (∀ x ∈ l, (elOf ks x).isSome = true) → (l.map Int.toNat).Nodup := by
      intro l
      induction l with
      | nil => intro _ _; simp
      | cons a l ih =>
        intro hn he
        rw [List.map_cons, List.nodup_cons]
        refine ⟨fun hm => ?_, ih (List.nodup_cons.1 hn).2 (fun x hx => he x (List.mem_cons_of_mem _ hx))⟩
        obtain ⟨y, hy, e⟩ := List.mem_map.1 hm
        obtain ⟨i, rfl, _⟩ := elOf_nat (he a List.mem_cons_self)
        obtain ⟨j, rfl, _⟩ := elOf_nat (he y (List.mem_cons_of_mem _ hy))
        simp at e
        subst e
        exact (List.nodup_cons.1 hn).1 hy
    exact key L h.nodup h.el
  have := List.Nodup.length_le_of_subset h1 (l₂ := List.range ks.length) (fun x hx => by
    obtain ⟨y, hy, rfl⟩ := List.mem_map.1 hx
    obtain ⟨i, rfl, hi⟩ := elOf_nat (h.el y hy)
    simpa using hi)
  simpa using this
theorem Good.cal {ks : List Key} {L : List Int} (h : Good ks L) {x : Int} (hx : x ∈ L) : elOf ks x = some (calOf ks x) := by
  have := h.el x hx
  unfold calOf
  cases he : elOf ks x with
  | none => rw [he] at this; cases this
  | some c => rfl
theorem Good.sub {ks : List Key} {L L2 : List Int} (h : Good ks L) (hs : L2.Sublist L) : Good ks L2 := ⟨h.nodup.sublist hs, fun x hx => h.el x (hs.subset hx)⟩

/-- A stack beside its arena. -/
structure Live (w : World) (base bK bA : Nat) (ks : List Key) (L : List Int) : Prop where
  ar : ∃ F, ArK w base bA ks F
  st : ∃ F, StkS w base bK bA (elOf ks) L F
theorem Live.below {w w' : World} {base bK bA : Nat} {ks : List Key} {L : List Int} (h : Live w base bK bA ks L) (hb : Below w.heap.size w w') : Live w' base bK bA ks L := by
  obtain ⟨⟨F, h1⟩, ⟨G, h2⟩⟩ := h
  exact ⟨⟨F, h1.below hb⟩, ⟨G, h2.below hb⟩⟩


/-- What look tells of a number. -/
def knownOf (ks : List Key) (id : Int) : Value := match elOf ks id with
  | some c => kV c
  | none => .agg zRow
theorem known_ret (W : World) (b : Nat) (cs : Array Value) (hs : cs.size = 8) (h : W.heap[b]? = some (.cells cs 103 (0, 0))) (tmps : Array Value) (x : Value) (h4 : tmps.getD 4 undef = .pointer (some ⟨b, 0, none⟩)) (h5 : tmps.getD 5 undef = x) :
    (results Try.f68 tmps).run Try.prog W = .ok (.tuple #[.agg cs, x]) W := by
  rw [results_cell_tmp (p := 4) (u := 5) (ty := 103) Try.results68 tmps Try.prog W, h4, h5]
  have hr := run_loadVar_row W b 103 103 cs (0, 0) _ h Try.underlying103 rfl (by rw [hs]; kernel_rfl)
  simp [asAddr, hr]

section
variable {w : World} {base bK bA : Nat} {ks : List Key} {L : List Int} {F FA : Nat → Prop}
theorem look_neg (hs : StkS w base bK bA (elOf ks) L F) (id : Int) (hn : id < 0) : Calls Try.prog 68 #[.pointer (some ⟨bK, 0, none⟩), .int .i64 id] w fun e w' =>
    e = .returned (.tuple #[.agg zRow, .bool false]) ∧ Below w.heap.size w w' := by
  obtain ⟨bP, bM, p, v, ms, h, _, _, _⟩ := hs
  have HM := hide (made_s (h.below (below_new w (.cells zRow 103))))
  clear h
  unfold zRow at HM
  go_enter Try.func68, Try.ntmps68
  go_wp2_with (go_at_call 55; refine (unhide HM).mono ?_; rintro e w1 ⟨rfl, rfl⟩)
  exact bodyPost_ret (v := .tuple #[.agg zRow, .bool false]) (known_ret _ w.heap.size zRow rfl (heap_alloc_new w _) _ _ rfl rfl) rfl ⟨rfl, below_new _ _⟩
end
end Go.Proofs.Ytmllhebmaldgfaa
