/-
  Both queues in memory, and what each call leaves.
-/
import Derived.Test.YtdfcdgjmjionbaaUy
import Derived.Test.YtdfcdgjmjionbaaTk
import Derived.Test.YtdfcdgjmjionbaaTo
namespace Go.Proofs.Ytdfcdgjmjionbaa
open Go.RowKit Go.Lib

/-- Both queues. -/
structure Two (w0 w : World) (bq rq : Nat) (qs : List (List Tk)) (ls : List (List Jb)) (F G : Nat → Prop) : Prop where
  bel : Below w0.heap.size w0 w
  q : QueS w w0.heap.size bq qs F
  r : RefS w w0.heap.size rq ls G
  far : ∀ k, F k → ¬ G k
section
variable {w0 w w' : World} {bq rq : Nat} {qs : List (List Tk)} {ls : List (List Jb)} {F G : Nat → Prop}
theorem Two.below (h : Two w0 w bq rq qs ls F G) (hb : Below w.heap.size w w') : Two w0 w' bq rq qs ls F G := ⟨h.bel.trans (hb.mono h.bel.size), h.q.below hb, h.r.below hb, h.far⟩
theorem Two.qbel (h : Two w0 w bq rq qs ls F G) (hm : Mod F w w') : Below w0.heap.size w0 w' := ((Mod.of_below (F := fun k => w0.heap.size ≤ k) h.bel).then hm (fun k hk => .inl (h.q.lt k hk).1)).below (Nat.le_refl _) (fun _ hk => hk)
theorem Two.rbel (h : Two w0 w bq rq qs ls F G) (hm : Mod G w w') : Below w0.heap.size w0 w' := ((Mod.of_below (F := fun k => w0.heap.size ≤ k) h.bel).then hm (fun k hk => .inl (h.r.lt k hk).1)).below (Nat.le_refl _) (fun _ hk => hk)
end
/-- Both queues, and a box of three numbers that no queue has. -/
def St (w0 w : World) (bq rq : Nat) (qs : List (List Tk)) (ls : List (List Jb)) (bx : Nat) (row : Array Value) : Prop := ∃ F G, Two w0 w bq rq qs ls F G ∧ w.heap[bx]? = some (.cells row 28 (0, 0)) ∧ ¬ F bx ∧ ¬ G bx
section
variable {w0 w w' : World} {bq rq bx : Nat} {qs : List (List Tk)} {ls : List (List Jb)} {row : Array Value}
theorem St.below (h : St w0 w bq rq qs ls bx row) (hb : Below w.heap.size w w') : St w0 w' bq rq qs ls bx row := by
  obtain ⟨F, G, h1, h2, h3, h4⟩ := h
  exact ⟨F, G, h1.below hb, (hb.block bx (lt_of_block h2)).trans h2, h3, h4⟩
theorem St.drew (h : St w0 w bq rq qs ls bx row) : St w0 w.drew bq rq qs ls bx row := h.below (Below.refl _ _).drew
theorem St.cell (h : St w0 w bq rq qs ls bx row) (j : Nat) : w.cell? ⟨bx, j, none⟩ = row[j]? := by
  obtain ⟨F, G, _, h2, _⟩ := h
  exact cell_of_row _ _ j _ _ _ h2
theorem St.job1 (h : St w0 w bq rq qs ls bx row) (n : Int) : Calls Try.prog 12 #[.int .i64 n] w fun e w' => ∃ x : TkV, e = .returned x.val ∧ St w0 w' bq rq qs ls bx row ∧ TkIn w' (fun _ => True) (tkJob n) x := by
  refine (job_any n w).mono ?_
  rintro e w' ⟨x, rfl, hb, hx⟩
  exact ⟨x, rfl, h.below hb, hx.mono (fun _ _ _ => trivial)⟩
theorem St.post (h : St w0 w bq rq qs ls bx row) (src : Int) (t : Tk) (x : TkV) (hx : TkIn w (fun _ => True) t x) :
    Calls Try.prog 11 #[.pointer (some ⟨bq, 0, none⟩), .int .i64 src, x.val] w fun e w' => e = .returned (.int .i64 (postM qs src t).1) ∧ St w0 w' bq rq (postM qs src t).2 ls bx row := by
  obtain ⟨F, G, h1, h2, h3, h4⟩ := h
  refine (post_any h1.q h1.bel.size src t x hx).mono ?_
  rintro e w' ⟨rfl, F', hq, hm, hF⟩
  have hbx := lt_of_block h2
  refine ⟨rfl, F', G, ⟨h1.qbel hm, hq, h1.r.mod hm (fun k a b => h1.far k b a), fun k a b => ?_⟩, (hm.block bx hbx h3).trans h2, fun a => ?_, h4⟩
  · rcases hF k a with c | c
    · exact h1.far k c b
    · have := (h1.r.lt k b).2; omega
  · rcases hF bx a with c | c
    · exact h3 c
    · omega
/-- And a new job. -/
def StJ (w0 w : World) (bq rq : Nat) (qs : List (List Tk)) (ls : List (List Jb)) (bx : Nat) (row : Array Value) (x : Jb) : Prop := ∃ F G, Two w0 w bq rq qs ls F G ∧ w.heap[bx]? = some (.cells row 28 (0, 0)) ∧ ¬ F bx ∧ ¬ G bx ∧ JobAt w x.b x.n ∧ w0.heap.size ≤ x.b ∧ ¬ F x.b ∧ x.b ≠ bx
theorem StJ.below {x : Jb} (h : StJ w0 w bq rq qs ls bx row x) (hb : Below w.heap.size w w') : StJ w0 w' bq rq qs ls bx row x := by
  obtain ⟨F, G, h1, h2, h3, h4, h5, h6⟩ := h
  exact ⟨F, G, h1.below hb, (hb.block bx (lt_of_block h2)).trans h2, h3, h4, (hb.block x.b (lt_of_block h5)).trans h5, h6⟩
theorem StJ.st {x : Jb} (h : StJ w0 w bq rq qs ls bx row x) : St w0 w bq rq qs ls bx row := by
  obtain ⟨F, G, h1, h2, h3, h4, _⟩ := h
  exact ⟨F, G, h1, h2, h3, h4⟩
theorem St.job2 (h : St w0 w bq rq qs ls bx row) (n : Int) : Calls Try.prog 12 #[.int .i64 n] w fun e w' => ∃ b, e = .returned (Jb.val ⟨n, b⟩) ∧ StJ w0 w' bq rq qs ls bx row ⟨n, b⟩ := by
  obtain ⟨F, G, h1, h2, h3, h4⟩ := h
  refine (job_jb n w).mono ?_
  rintro e w' ⟨b, rfl, hb, hw, hj⟩
  exact ⟨b, rfl, F, G, h1.below hb, (hb.block bx (lt_of_block h2)).trans h2, h3, h4, hj, Nat.le_trans h1.bel.size hw, fun a => by have := (h1.q.lt b a).2; omega, by have := lt_of_block h2; show b ≠ bx; omega⟩
theorem StJ.post {x : Jb} (h : StJ w0 w bq rq qs ls bx row x) (src : Int) :
    Calls Try.prog 13 #[.pointer (some ⟨rq, 0, none⟩), .int .i64 src, x.val] w fun e w' => e = .returned (.int .i64 (postT ls src x).1) ∧ St w0 w' bq rq qs (postT ls src x).2 bx row := by
  obtain ⟨F, G, h1, h2, h3, h4, h5, h6, h7, h8⟩ := h
  refine (rpost_any h1.r h1.bel.size src x h5 h6).mono ?_
  rintro e w' ⟨rfl, G', hq, hm, hG⟩
  have hbx := lt_of_block h2
  refine ⟨rfl, F, G', ⟨h1.rbel hm, h1.q.mod hm h1.far, hq, fun k a b => ?_⟩, (hm.block bx hbx h4).trans h2, h3, fun a => ?_⟩
  · rcases hG k b with c | rfl | c
    · exact h1.far k a c
    · exact h7 a
    · have := (h1.q.lt k a).2; omega
  · rcases hG bx a with c | c | c
    · exact h4 c
    · exact h8 c.symm
    · omega
/-- And a task that the program told. -/
def StN (w0 w : World) (bq rq : Nat) (qs : List (List Tk)) (ls : List (List Jb)) (bx : Nat) (row : Array Value) (t : Tk) (x : TkV) : Prop := ∃ F G, Two w0 w bq rq qs ls F G ∧ w.heap[bx]? = some (.cells row 28 (0, 0)) ∧ ¬ F bx ∧ ¬ G bx ∧ TkIn w F t x
theorem StN.below {t : Tk} {x : TkV} (h : StN w0 w bq rq qs ls bx row t x) (hb : Below w.heap.size w w') : StN w0 w' bq rq qs ls bx row t x := by
  obtain ⟨F, G, h1, h2, h3, h4, h5⟩ := h
  exact ⟨F, G, h1.below hb, (hb.block bx (lt_of_block h2)).trans h2, h3, h4, h5.below hb⟩
theorem StN.st {t : Tk} {x : TkV} (h : StN w0 w bq rq qs ls bx row t x) : St w0 w bq rq qs ls bx row := by
  obtain ⟨F, G, h1, h2, h3, h4, _⟩ := h
  exact ⟨F, G, h1, h2, h3, h4⟩
theorem StN.tk {t : Tk} {x : TkV} (h : StN w0 w bq rq qs ls bx row t x) : TkIn w (fun _ => True) t x := by
  obtain ⟨F, G, _, _, _, _, h5⟩ := h
  exact h5.mono (fun _ _ _ => trivial)
/-- Where nothing waits. -/
theorem St.next_none (h : St w0 w bq rq (qsOf ls) ls bx row) (pick : Int) (hn : nextM (qsOf ls) pick = none) :
    Calls Try.prog 14 #[.pointer (some ⟨bq, 0, none⟩), .int .i64 pick] w fun e w' => e = .returned (.tuple #[tkZ.val, .int .i64 0, .bool false]) ∧ StN w0 w' bq rq (qsOf ls) ls bx row tk0 tkZ := by
  obtain ⟨F, G, h1, h2, h3, h4⟩ := h
  refine (next_any h1.q pick).mono ?_
  unfold NextA
  rw [hn]
  rintro e w' ⟨rfl, hq, hm⟩
  exact ⟨rfl, F, G, ⟨h1.qbel hm, hq, h1.r.mod hm (fun k a b => h1.far k b a), h1.far⟩, (hm.block bx (lt_of_block h2) h3).trans h2, h3, h4, TkIn.z _ _⟩
theorem St.next_some (h : St w0 w bq rq (qsOf ls) ls bx row) (pick : Int) {i : Nat} {y : Jb} {l : List Jb} (hn : nextM (qsOf ls) pick = some (tkJob y.n, i, qsOf (ls.set i l))) :
    Calls Try.prog 14 #[.pointer (some ⟨bq, 0, none⟩), .int .i64 pick] w fun e w' => ∃ x : TkV, e = .returned (.tuple #[x.val, .int .i64 i, .bool true]) ∧ StN w0 w' bq rq (qsOf (ls.set i l)) ls bx row (tkJob y.n) x := by
  obtain ⟨F, G, h1, h2, h3, h4⟩ := h
  refine (next_any h1.q pick).mono ?_
  unfold NextA
  rw [hn]
  rintro e w' ⟨x, rfl, hq, hx, hm⟩
  exact ⟨x, rfl, F, G, ⟨h1.qbel hm, hq, h1.r.mod hm (fun k a b => h1.far k b a), h1.far⟩, (hm.block bx (lt_of_block h2) h3).trans h2, h3, h4, hx⟩
/-- The document's: it keeps a block that was made last. -/
theorem StN.rnext_none {t : Tk} {x : TkV} (h : StN w0 w bq rq qs ls bx row t x) (o : Obj) (hn : readyT ls 4 = []) (pick : Int) :
    Calls Try.prog 15 #[.pointer (some ⟨rq, 0, none⟩), .int .i64 pick] (w.alloc o) fun e w' => e = .returned (.tuple #[tkZ.val, .int .i64 0, .bool false]) ∧ StN w0 w' bq rq qs ls bx row t x ∧ w'.heap[w.heap.size]? = some o := by
  have ho := heap_alloc_new w o
  obtain ⟨F, G, h1, h2, h3, h4, h5⟩ := h.below (below_new w o)
  refine (Ytdfcdgjmjionbaa.rnext_none rq pick (w.alloc o) (rready_none h1.r hn)).mono ?_
  rintro e w' ⟨rfl, hb⟩
  exact ⟨rfl, StN.below ⟨F, G, h1, h2, h3, h4, h5⟩ hb, (hb.block _ (lt_of_block ho)).trans ho⟩
theorem StN.rnext_some {t : Tk} {x : TkV} (h : StN w0 w bq rq qs ls bx row t x) (o : Obj) (pick : Int) {i : Nat} {y : Jb} {l : List Jb} (hr : (toI (readyT ls 4))[(restM pick (readyT ls 4).length).toNat]? = some (i : Int)) (hi : ls[i]? = some (y :: l)) :
    Calls Try.prog 15 #[.pointer (some ⟨rq, 0, none⟩), .int .i64 pick] (w.alloc o) fun e w' => e = .returned (.tuple #[y.val, .int .i64 i, .bool true]) ∧ StN w0 w' bq rq qs (ls.set i l) bx row t x ∧ w'.heap[w.heap.size]? = some o ∧ JobAt w' y.b y.n := by
  have ho := heap_alloc_new w o
  have hb := below_new w o
  obtain ⟨F, G, h1, h2, h3, h4, h5⟩ := h
  have k1 := h1.below hb
  have k2 := (hb.block bx (lt_of_block h2)).trans h2
  refine (Ytdfcdgjmjionbaa.rnext_some k1.r pick i y l hr hi).mono ?_
  rintro e w' ⟨rfl, hq, hj, _, hm⟩
  refine ⟨rfl, ⟨F, G, ⟨k1.rbel hm, k1.q.mod hm k1.far, hq, k1.far⟩, (hm.block bx (lt_of_block k2) h4).trans k2, h3, h4, (h5.below hb).mod hm k1.far⟩, (hm.block _ (lt_of_block ho) (fun a => by have := (h1.r.lt _ a).2; omega)).trans ho, hj⟩
end
end Go.Proofs.Ytdfcdgjmjionbaa
