/-
  A stack of package stack: what its elements are called; elements pushed, popped, put in, swapped and taken out.
-/
import Derived.Test.YtaiejlgoldmjdaaSa
namespace Go.Proofs.Ytaiejlgoldmjdaa
open Go.RowKit

structure Cal where
  space : Int
  name : ByteArray
def Cal.agg (c : Cal) : Value := .agg #[.int .i64 c.space, .string c.name]
def cal0 : Cal := ⟨0, emptyS⟩

/-- What the element of a number is called. -/
def elOf (ks : List Key) (id : Int) : Option Cal := match keyAt ks id with
  | some q => if q.kind = 1 then some ⟨q.space, q.name⟩ else none
  | none => none
def calOf (ks : List Key) (id : Int) : Cal := (elOf ks id).getD cal0

theorem elOf_none {ks : List Key} {id : Int} (h : keyAt ks id = none) : elOf ks id = none := by simp [elOf, h]
theorem elOf_key {ks : List Key} {id : Int} {q : Key} (h : keyAt ks id = some q) : elOf ks id = if q.kind = 1 then some ⟨q.space, q.name⟩ else none := by simp [elOf, h]
theorem elOf_nat {ks : List Key} {id : Int} (h : (elOf ks id).isSome = true) : ∃ i : Nat, id = (i : Int) ∧ i < ks.length := by
  cases hk : keyAt ks id with
  | none => rw [elOf_none hk] at h; cases h
  | some q =>
    obtain ⟨i, rfl, hi⟩ := keyAt_some hk
    exact ⟨i, rfl, (List.getElem?_eq_some_iff.1 hi).1⟩

/-- Each number of the stack is an element's, and stands there once. -/
structure Good (ks : List Key) (L : List Int) : Prop where
  nodup : L.Nodup
  el : ∀ x ∈ L, (elOf ks x).isSome = true

theorem Good.nil (ks : List Key) : Good ks [] := ⟨List.nodup_nil, fun x hx => by cases hx⟩
theorem Good.len {ks : List Key} {L : List Int} (h : Good ks L) : L.length ≤ ks.length := by
  have h1 : (L.map Int.toNat).Nodup := by
    have key : ∀ l : List Int, l.Nodup → (∀ x ∈ l, (elOf ks x).isSome = true) → (l.map Int.toNat).Nodup := by
      intro l
      induction l with
      | nil => intro _ _; simp
      | cons a l ih =>
        intro hn he
        rw [List.map_cons, List.nodup_cons]
        refine ⟨fun hm => ?_, ih (List.nodup_cons.1 hn).2 (fun x hx => he x (List.mem_cons_of_mem _ hx))⟩
        obtain ⟨y, hy, e⟩ := List.mem_map.1 hm
        obtain ⟨i, rfl, _⟩ := elOf_nat (he a List.mem_cons_self)
        obtain ⟨j, rfl, _⟩ := elOf_nat (he y (List.mem_cons_of_mem _ hy))
        simp at e
        subst e
        exact (List.nodup_cons.1 hn).1 hy
    exact key L h.nodup h.el
  have := List.Nodup.length_le_of_subset h1 (l₂ := List.range ks.length) (fun x hx => by
    obtain ⟨y, hy, rfl⟩ := List.mem_map.1 hx
    obtain ⟨i, rfl, hi⟩ := elOf_nat (h.el y hy)
    simpa using hi)
  simpa using this
theorem Good.cal {ks : List Key} {L : List Int} (h : Good ks L) {x : Int} (hx : x ∈ L) : elOf ks x = some (calOf ks x) := by
  have := h.el x hx
  unfold calOf
  cases he : elOf ks x with
  | none => rw [he] at this; cases this
  | some c => rfl
theorem Good.sub {ks : List Key} {L L2 : List Int} (h : Good ks L) (hs : L2.Sublist L) : Good ks L2 := ⟨h.nodup.sublist hs, fun x hx => h.el x (hs.subset hx)⟩

/-- A stack beside its arena. -/
structure Live (w : World) (base bK bA : Nat) (ks : List Key) (L : List Int) : Prop where
  ar : ∃ F, ArK w base bA ks F
  st : ∃ F, StkS w base bK bA L F
theorem Live.below {w w' : World} {base bK bA : Nat} {ks : List Key} {L : List Int} (h : Live w base bK bA ks L) (hb : Below w.heap.size w w') : Live w' base bK bA ks L := by
  obtain ⟨⟨F, h1⟩, ⟨G, h2⟩⟩ := h
  exact ⟨⟨F, h1.below hb⟩, ⟨G, h2.below hb⟩⟩

theorem two_block (w : World) (b : Nat) (v0 v1 x0 x1 : Value) (t : TypeId) (h : w.heap[b]? = some (.cells #[x0, x1] t (0, 0))) : ((w.setCell ⟨b, 0, none⟩ v0).setCell ⟨b, 1, none⟩ v1).heap[b]? = some (.cells #[v0, v1] t (0, 0)) := by
  have h0 := heap_setCell_same w b 0 #[x0, x1] t v0 h
  have h1 := heap_setCell_same _ b 1 _ t v1 h0
  simpa using h1
/-- What look's two results are read as. -/
theorem look_ret (W : World) (b : Nat) (c : Cal) (h : W.heap[b]? = some (.cells #[.int .i64 c.space, .string c.name] 86 (0, 0))) (tmps : Array Value) (x : Value) (h4 : tmps.getD 4 undef = .pointer (some ⟨b, 0, none⟩)) (h5 : tmps.getD 5 undef = x) :
    (results Try.f61 tmps).run Try.prog W = .ok (.tuple #[c.agg, x]) W := by
  have c0 : W.cell? ⟨b, 0, none⟩ = some (.int .i64 c.space) := by simp [World.cell?, h]
  have c1 : W.cell? ⟨b, 1, none⟩ = some (.string c.name) := by simp [World.cell?, h]
  rw [results_cell_tmp (p := 4) (u := 5) (ty := 86) Try.results61 tmps Try.prog W, h4, h5]
  simp [go_sem, c0, c1, Cal.agg]

section
variable {w : World} {base bK bA : Nat} {ks : List Key} {L : List Int} {F : Nat → Prop}

set_option maxHeartbeats 2000000 in
theorem look_any (h : Live w base bK bA ks L) (id : Int) : Calls Try.prog 61 #[.pointer (some ⟨bK, 0, none⟩), .int .i64 id] w fun e w' =>
    e = .returned (.tuple #[(calOf ks id).agg, .bool (elOf ks id).isSome]) ∧ Below w.heap.size w w' := by
  obtain ⟨⟨FA, ha⟩, FS, bP, p, hs, rfl, _⟩ := h
  have hb0 : Below w.heap.size w (w.alloc (.cells #[.int .i64 0, .string ⟨#[]⟩] 86)) := (Below.refl _ w).alloc (Nat.le_refl _) _
  have HM := hide (made_s (hs.below hb0))
  have hltK := hs.lt
  obtain ⟨h0, h1⟩ := hs.cells
  have kb : ∀ w4, Below (w.alloc (.cells #[.int .i64 0, .string ⟨#[]⟩] 86)).heap.size (w.alloc (.cells #[.int .i64 0, .string ⟨#[]⟩] 86)) w4 →
      w4.heap[w.heap.size]? = some (.cells #[.int .i64 0, .string ⟨#[]⟩] 86 (0, 0)) ∧ w.heap.size < w4.heap.size ∧ Below w.heap.size w w4 := by
    intro w4 hb4
    refine ⟨(hb4.block _ (by simp)).trans (heap_alloc_new w _), ?_, hb0.trans (hb4.mono (by simp))⟩
    have := hb4.size
    simp at this
    omega
  have HKB := hide kb
  have fin : ∀ (w4 : World) (c : Cal) (o : Obj), Below w.heap.size w w4 → w.heap.size < w4.heap.size → w4.heap[w.heap.size]? = some (.cells #[.int .i64 0, .string ⟨#[]⟩] 86 (0, 0)) →
      (((w4.setCell ⟨w.heap.size, 0, none⟩ (.int .i64 c.space)).setCell ⟨w.heap.size, 1, none⟩ (.string c.name)).alloc o).heap[w.heap.size]? = some (.cells #[.int .i64 c.space, .string c.name] 86 (0, 0)) ∧
      Below w.heap.size w (((w4.setCell ⟨w.heap.size, 0, none⟩ (.int .i64 c.space)).setCell ⟨w.heap.size, 1, none⟩ (.string c.name)).alloc o) := by
    intro w4 c o b5 hlt hblk
    refine ⟨(Below.heap_alloc _ _ _ (by simp; omega)).trans (two_block _ _ _ _ _ _ _ hblk), ?_⟩
    exact (b5.trans (((Mod.setCell (F := fun k => k = w.heap.size) w4 ⟨w.heap.size, 0, none⟩ _ rfl).trans (Mod.setCell _ ⟨w.heap.size, 1, none⟩ _ rfl)).below b5.size (fun k hk => by omega))).alloc (by simp; omega) _
  have HFIN := hide fin
  clear kb fin
  cases hk : keyAt ks id with
  | none =>
    have HN := hide (node_k_no (ha.below hb0) hk)
    have e1 : calOf ks id = cal0 := by unfold calOf; rw [elOf_none hk]; rfl
    have e2 : (elOf ks id).isSome = false := by rw [elOf_none hk]; rfl
    rw [e1, e2]
    clear ha hs hk e1 e2 hb0
    go_enter Try.func61, Try.ntmps61
    go_wp2_with (first | (go_at_call 49; refine (unhide HM).mono ?_; rintro e w' ⟨rfl, rfl⟩) | (go_at_call 17; refine (unhide HN).mono ?_; rintro e w4 ⟨rfl, hb4⟩; obtain ⟨kb1, kb2, kb3⟩ := (unhide HKB) w4 hb4; have k0 : w4.cell? ⟨w.heap.size, 0, none⟩ = some (.int .i64 0) := (by simp [World.cell?, kb1]); have k1 : w4.cell? ⟨w.heap.size, 1, none⟩ = some (.string ⟨#[]⟩) := (by simp [World.cell?, kb1]); have f0 : w4.frozen? ⟨w.heap.size, 0, none⟩ = false := (by simp [World.frozen?, kb1]); have f1 : w4.frozen? ⟨w.heap.size, 1, none⟩ = false := (by simp [World.frozen?, kb1]); have kne : ¬ w.heap.size = w4.heap.size := (by omega); have kne2 : ¬ w4.heap.size = w.heap.size := (by omega); have klt : w.heap.size < w4.heap.size := (by omega); have HB1 := hide kb1; have HB2 := hide kb2; have HB3 := hide kb3; unfold nodeZ; clear hb4 kb1 kb2 kb3))
    have R := fun c o => (unhide HFIN) w4 c o (unhide HB3) (unhide HB2) (unhide HB1)
    exact bodyPost_ret (v := .tuple #[cal0.agg, .bool false]) (look_ret _ w.heap.size cal0 (R cal0 _).1 _ _ rfl rfl) rfl ⟨rfl, (R cal0 _).2⟩
  | some q =>
    have HN := hide (node_k (ha.below hb0) hk)
    have e0 := elOf_key hk
    obtain ⟨qk, qs, qn⟩ := q
    by_cases hq1 : qk = 1
    · subst hq1
      have e1 : calOf ks id = ⟨qs, qn⟩ := by unfold calOf; rw [e0]; rfl
      have e2 : (elOf ks id).isSome = true := by rw [e0]; rfl
      rw [e1, e2]
      clear ha hs hk e0 e1 e2 hb0
      go_enter Try.func61, Try.ntmps61
      go_wp2_with (first | (go_at_call 49; refine (unhide HM).mono ?_; rintro e w' ⟨rfl, rfl⟩) | (go_at_call 17; refine (unhide HN).mono ?_; rintro e w4 ⟨n, ao, mm, cc, rfl, hq, hb4⟩; obtain ⟨nk, nsp, nnm, nav, nda, nsy, npa, nfi, nla, npr, nne, nin, nat⟩ := n; obtain ⟨kb1, kb2, kb3⟩ := (unhide HKB) w4 hb4; have k0 : w4.cell? ⟨w.heap.size, 0, none⟩ = some (.int .i64 0) := (by simp [World.cell?, kb1]); have k1 : w4.cell? ⟨w.heap.size, 1, none⟩ = some (.string ⟨#[]⟩) := (by simp [World.cell?, kb1]); have f0 : w4.frozen? ⟨w.heap.size, 0, none⟩ = false := (by simp [World.frozen?, kb1]); have f1 : w4.frozen? ⟨w.heap.size, 1, none⟩ = false := (by simp [World.frozen?, kb1]); have kne : ¬ w.heap.size = w4.heap.size := (by omega); have kne2 : ¬ w4.heap.size = w.heap.size := (by omega); have klt : w.heap.size < w4.heap.size := (by omega); have HB1 := hide kb1; have HB2 := hide kb2; have HB3 := hide kb3; simp only [nodeV, NodeM.cells]; simp only [keyN, Key.mk.injEq] at hq; obtain ⟨rfl, rfl, rfl⟩ := hq;   clear hb4 kb1 kb2 kb3))
      have R := fun c o => (unhide HFIN) w4 c o (unhide HB3) (unhide HB2) (unhide HB1)
      exact bodyPost_ret (v := .tuple #[Cal.agg ⟨_, _⟩, .bool true]) (look_ret _ w.heap.size ⟨_, _⟩ (R ⟨_, _⟩ _).1 _ _ rfl rfl) rfl ⟨rfl, (R ⟨_, _⟩ _).2⟩
    · have e1 : calOf ks id = cal0 := by unfold calOf; rw [e0, if_neg hq1]; rfl
      have e2 : (elOf ks id).isSome = false := by rw [e0, if_neg hq1]; rfl
      rw [e1, e2]
      have hq1' : (qk != 1) = true := by simpa using hq1
      clear ha hs hk e0 e1 e2 hb0 hq1
      go_enter Try.func61, Try.ntmps61
      go_wp2_with (first | (go_at_call 49; refine (unhide HM).mono ?_; rintro e w' ⟨rfl, rfl⟩) | (go_at_call 17; refine (unhide HN).mono ?_; rintro e w4 ⟨n, ao, mm, cc, rfl, hq, hb4⟩; obtain ⟨nk, nsp, nnm, nav, nda, nsy, npa, nfi, nla, npr, nne, nin, nat⟩ := n; obtain ⟨kb1, kb2, kb3⟩ := (unhide HKB) w4 hb4; have k0 : w4.cell? ⟨w.heap.size, 0, none⟩ = some (.int .i64 0) := (by simp [World.cell?, kb1]); have k1 : w4.cell? ⟨w.heap.size, 1, none⟩ = some (.string ⟨#[]⟩) := (by simp [World.cell?, kb1]); have f0 : w4.frozen? ⟨w.heap.size, 0, none⟩ = false := (by simp [World.frozen?, kb1]); have f1 : w4.frozen? ⟨w.heap.size, 1, none⟩ = false := (by simp [World.frozen?, kb1]); have kne : ¬ w.heap.size = w4.heap.size := (by omega); have kne2 : ¬ w4.heap.size = w.heap.size := (by omega); have klt : w.heap.size < w4.heap.size := (by omega); have HB1 := hide kb1; have HB2 := hide kb2; have HB3 := hide kb3; simp only [nodeV, NodeM.cells]; simp only [keyN, Key.mk.injEq] at hq; obtain ⟨rfl, rfl, rfl⟩ := hq;   clear hb4 kb1 kb2 kb3))
      have R := fun c o => (unhide HFIN) w4 c o (unhide HB3) (unhide HB2) (unhide HB1)
      exact bodyPost_ret (v := .tuple #[cal0.agg, .bool false]) (look_ret _ w.heap.size cal0 (R cal0 _).1 _ _ rfl rfl) rfl ⟨rfl, (R cal0 _).2⟩
end
end Go.Proofs.Ytaiejlgoldmjdaa
