/-
  The law's job, told by its block; the document's Post.
-/
import Derived.Test.YtdfcdgjmjionbaaUc
import Derived.Test.YtdfcdgjmjionbaaTl
namespace Go.Proofs.Ytdfcdgjmjionbaa
open Go.RowKit Go.Lib

def Jb.val (x : Jb) : Value := .agg #[.int .i64 2, .slice none 0 0, .slice (some ⟨x.b, 0, none⟩) 1 1]
theorem job_jb (n : Int) (w : World) : Calls Try.prog 12 #[.int .i64 n] w fun e w' => ∃ b, e = .returned (Jb.val ⟨n, b⟩) ∧ Below w.heap.size w w' ∧ w.heap.size ≤ b ∧ JobAt w' b n := by
  go_enter Try.func12, Try.ntmps12
  go_wp2
  have h := heap_alloc_new (w.alloc (Obj.cells #[Value.int IntKind.i64 2, Value.slice none 0 0, Value.slice (some ⟨w.heap.size + 1, 0, none⟩) 1 1] 34)) (Obj.cells #[Value.int IntKind.i64 0, Value.int IntKind.i64 n, Value.int IntKind.i64 0, Value.int IntKind.i64 0, Value.string ⟨#[]⟩, Value.string ⟨#[]⟩] 66)
  simp only [World.size_alloc] at h
  refine bodyPost_ret (v := TkV.val ⟨2, none, 0, 0, some ⟨w.heap.size + 1, 0, none⟩, 1, 1⟩) (tk_ret Try.results12 (b := w.heap.size) (x := ⟨2, none, 0, 0, some ⟨w.heap.size + 1, 0, none⟩, 1, 1⟩) ?_ _ rfl) rfl ⟨w.heap.size + 1, rfl, (below_new _ _).alloc (by simp) _, by omega, h⟩
  rw [Below.heap_alloc _ _ _ (by simp)]
  exact heap_alloc_new w _
/-- Such a task, as the law reads it. -/
theorem JobAt.tk {w : World} {b : Nat} {n : Int} (h : JobAt w b n) : TkIn w (fun k => k = b) (tkJob n) ⟨2, none, 0, 0, some ⟨b, 0, none⟩, 1, 1⟩ := by
  refine ⟨rfl, rfl, rfl, RowIn.nil _ _ _, fun j u hj => ⟨b, 0, rfl, rfl, ?_⟩, by simp [tkJob], by simp [tkJob]⟩
  rw [Nat.zero_add, cell_of_row _ _ j _ _ _ h]
  simpa [actRow, tkJob, actJob, ActM.cells, jobArr] using hj

theorem step_part {w : World} {base : Nat} {p : PartM} {ops : Array Oper} {o : Oper} {act : Act} {K : Act → World → Prop} {Q : Exit → Act → World → Prop} {E : Prop} (hgd : o.guard = none) (s y : Operand)
    (ho : o.op = .call { callee := .builtin .append, args := #[s, y], argTypes := #[67, 67] }) (hs : act.eval s = p.val) (x : Jb) (a : Option Addr) (c : Nat) {F : Nat → Prop} (hx : act.eval y = .slice a 1 c)
    (hp : PartAt w base p) (hb : base ≤ w.heap.size) (hl : RowIn w F a x.cells) (hm : p.xs.length ≤ 5000)
    (h : ∀ a' n' cap' p' w', p'.val = .slice a' n' cap' → PartAt w' base p' → p'.xs = p.xs ++ [x] → Mod (fun k => p.own = some k) w w' → (p'.own = p.own ∨ p'.own = some w.heap.size) → K (act.put o.dst (.slice a' n' cap')) w') :
    if Region.wanted o (yielded ops act.tmps) = true then Oper.wp Try.prog o act w K Q else E := by
  have hw : Region.wanted o (yielded ops act.tmps) = true := by simp [Region.wanted, hgd]
  rw [if_pos hw]
  obtain ⟨p', w', hr, h1, h2, h3, h4⟩ := part_append hp hb o.type x a c hl hm
  unfold Oper.wp execOp
  simp only [ho, resolve, invoke, builtin, Sem.run_bind, Sem.run_pure, Result.andThen_ok, List.map_toArray, List.map_cons, List.map_nil, hs, hx, hr]
  exact h p'.a p'.xs.length p'.cap p' w' rfl h1 h2 h3 h4

theorem types_ne {w : World} {i j : Nat} {a b : Array Value} {s t : TypeId} (hi : w.heap[i]? = some (.cells a s (0, 0))) (hj : w.heap[j]? = some (.cells b t (0, 0))) (h : s ≠ t) : i ≠ j := by
  rintro rfl
  rw [hi] at hj
  cases hj
  exact h rfl
/-- A row's slice is another one now. -/
theorem RefS.put {w w0 w1 : World} {base rq : Nat} {ls : List (List Jb)} {F : Nat → Prop} (h : RefS w base rq ls F) (hb : Below w.heap.size w w0) {i : Nat} {l : List Jb} (hi : ls[i]? = some l) (hl : l.length < 4096) (x : Jb) (hx : JobAt w x.b x.n) (hxb : base ≤ x.b)
    {rows : Nat} {ps : List PartM} (hF : F rows) (h6 : w.heap[rq]? = some (.cells #[.slice (some ⟨rows, 0, none⟩) 4 4] 62 (0, 0))) (h7 : ps.length = 4) (h8 : w.heap[rows]? = some (.cells (ps.map PartM.val).toArray 67 (0, 0)))
    (h9 : ∀ (i : Nat) p, ps[i]? = some p → PartAt w base p ∧ ls[i]? = some p.xs ∧ ∀ k, p.own = some k → F k)
    (h10 : ∀ (i j : Nat) p q k, ps[i]? = some p → ps[j]? = some q → p.own = some k → q.own = some k → i = j)
    {p p' : PartM} (hp : ps[i]? = some p) (hp' : PartAt w1 base p') (hxs : p'.xs = p.xs ++ [x]) (hm : Mod (fun k => p.own = some k) w0 w1) (ho : p'.own = p.own ∨ p'.own = some w0.heap.size) :
    RefS (w1.setCell ⟨rows, i, none⟩ p'.val) base rq (ls.set i (l ++ [x])) (fun k => F k ∨ k = x.b ∨ (w.heap.size ≤ k ∧ k < w1.heap.size)) ∧ Mod F w (w1.setCell ⟨rows, i, none⟩ p'.val) := by
  have hil := (List.getElem?_eq_some_iff.1 hi).1
  have hpl := (List.getElem?_eq_some_iff.1 hp).1
  obtain ⟨hpa, hpx, hpF⟩ := h9 i p hp
  have hlx : l = p.xs := by rw [hi] at hpx; exact Option.some.inj hpx
  subst hlx
  have up : ∀ k o, w.heap[k]? = some o → w0.heap[k]? = some o := fun k o hk => (hb.block k (lt_of_block hk)).trans hk
  have step : ∀ k (a : Array Value) (t : TypeId), w.heap[k]? = some (Obj.cells a t (0, 0)) → t ≠ 34 → w1.heap[k]? = some (Obj.cells a t (0, 0)) := fun k a t hk ht => by
    refine (hm.block k (lt_of_block (up k _ hk)) fun e => ?_).trans (up k _ hk)
    obtain ⟨_, _, cur, hc⟩ := hpa.own_lt e
    exact types_ne hk hc ht rfl
  have r8 := step rows _ _ h8 (by decide)
  have far : ∀ k (a : Array Value) (t : TypeId), w.heap[k]? = some (Obj.cells a t (0, 0)) → t ≠ 34 → t ≠ 67 → (w1.setCell ⟨rows, i, none⟩ p'.val).heap[k]? = some (Obj.cells a t (0, 0)) := fun k a t hk h1 h2 =>
    (Below.heap_setCell _ _ _ _ (types_ne hk h8 h2)).trans (step k a t hk h1)
  have hsz : w.heap.size ≤ w1.heap.size := Nat.le_trans hb.size hm.size
  have hrowsF := h.lt rows hF
  refine ⟨⟨fun k hk => ?_, .inl h.own, by rw [List.length_set]; exact h.len, fun m hm' => ?_, fun m hm' y hy => ?_, rows, ps.set i p', .inl hF, far rq _ _ h6 (by decide) (by decide), by rw [List.length_set]; exact h7, ?_, fun j q hq => ?_, fun j k q r b hq hr hqo hro => ?_⟩, ?_⟩
  · have hs : (w1.setCell ⟨rows, i, none⟩ p'.val).heap.size = w1.heap.size := by simp
    rw [hs]
    rcases hk with hk | rfl | ⟨h1, h2⟩
    · exact ⟨(h.lt k hk).1, Nat.lt_of_lt_of_le (h.lt k hk).2 hsz⟩
    · exact ⟨hxb, Nat.lt_of_lt_of_le (lt_of_block hx) hsz⟩
    · exact ⟨by omega, h2⟩
  · rcases List.mem_or_eq_of_mem_set hm' with h1 | rfl
    · exact h.small m h1
    · simp; omega
  · have old : ∀ m ∈ ls, ∀ y ∈ m, (F y.b ∨ y.b = x.b ∨ (w.heap.size ≤ y.b ∧ y.b < w1.heap.size)) ∧ JobAt (w1.setCell ⟨rows, i, none⟩ p'.val) y.b y.n := fun m h1 y h2 =>
      ⟨.inl (h.jobs m h1 y h2).1, far _ _ _ (h.jobs m h1 y h2).2 (by decide) (by decide)⟩
    rcases List.mem_or_eq_of_mem_set hm' with h1 | rfl
    · exact old m h1 y hy
    · rcases List.mem_append.1 hy with hy | hy
      · exact old _ (List.mem_of_getElem? hi) y hy
      · simp at hy
        subst hy
        exact ⟨.inr (.inl rfl), far _ _ _ hx (by decide) (by decide)⟩
  · rw [heap_setCell_same _ _ _ _ _ p'.val r8]
    congr 2
    rw [List.setIfInBounds_toArray, List.map_set]
  · have keep : ∀ q, PartAt w1 base q → PartAt (w1.setCell ⟨rows, i, none⟩ p'.val) base q := fun q hq => hq.kept fun k hk => by
      obtain ⟨_, _, cur, hc⟩ := hq.own_lt hk
      exact Below.heap_setCell _ _ _ _ (types_ne hc r8 (by decide))
    by_cases e : i = j
    · subst e
      rw [List.getElem?_set_self hpl] at hq
      cases hq
      refine ⟨keep _ hp', by rw [List.getElem?_set_self hil, hxs], fun k hk => ?_⟩
      rcases ho with ho | ho
      · exact .inl (hpF k (by rw [← ho]; exact hk))
      · have h1 := (hp'.own_lt hk).2.1
        rw [ho] at hk
        cases hk
        exact .inr (.inr ⟨hb.size, h1⟩)
    · rw [List.getElem?_set_ne e] at hq
      obtain ⟨h1, h2, h3⟩ := h9 j q hq
      refine ⟨keep _ (((h1.mod (F := fun _ => False) (Mod.of_below hb) (fun _ _ e => e))).mod hm (fun k hk hk2 => e (h10 i j p q k hp hq hk2 hk))), by rw [List.getElem?_set_ne e]; exact h2, fun k hk => .inl (h3 k hk)⟩
  · have new : ∀ (j : Nat) q, i ≠ j → ps[j]? = some q → p'.own = some b → q.own = some b → False := fun j q hij hq h1 h2 => by
      rcases ho with ho | ho
      · exact hij (h10 i j p q b hp hq (by rw [← ho]; exact h1) h2)
      · have h3 := ((h9 j q hq).1.own_lt h2).2.1
        have h4 := hb.size
        rw [ho] at h1
        cases h1
        omega
    by_cases e1 : i = j
    · by_cases e2 : i = k
      · omega
      · subst e1
        rw [List.getElem?_set_self hpl] at hq
        rw [List.getElem?_set_ne e2] at hr
        cases hq
        exact (new k r e2 hr hqo hro).elim
    · by_cases e2 : i = k
      · subst e2
        rw [List.getElem?_set_self hpl] at hr
        rw [List.getElem?_set_ne e1] at hq
        cases hr
        exact (new j q e1 hq hro hqo).elim
      · rw [List.getElem?_set_ne e1] at hq
        rw [List.getElem?_set_ne e2] at hr
        exact h10 j k q r b hq hr hqo hro
  · exact ((Mod.of_below hb).then hm (fun k hk => .inl (hpF k hk))).trans (Mod.setCell _ _ _ hF)
end Go.Proofs.Ytdfcdgjmjionbaa
