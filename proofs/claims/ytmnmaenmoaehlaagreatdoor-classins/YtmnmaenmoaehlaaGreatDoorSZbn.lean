/-
  families: what lies in memory at a step.
-/
import Derived.Test.YtmnmaenmoaehlaaGreatDoorSZbm
import Derived.OwnWalkIn
import Derived.Deep.AppendLies
namespace Go.Proofs.YtmnmaenmoaehlaaGreatDoor
open Go.RowKit Go.Lib

theorem Tryz.infoFam : (Tryz.prog.info? 73).map (fun i => (i.zero, i.size, i.bytes)) = some (some (.agg #[.int .i64 0, .int .i64 0, .string ⟨#[]⟩, .slice none 0 0, .string ⟨#[]⟩, .string ⟨#[]⟩, .int .i64 0, .int .i64 0, .int .i64 0, .int .i64 0, .int .i64 0, .int .i64 0, .slice none 0 0, .int .i64 0]), 14, 168) := by kernel_rfl

/-- What waits, in memory. -/
structure Rest (ns : List NodeM) (os : List OneM) (base B : Nat) (L : List FamE) (v : Value) (wx : World) : Prop where
  own : wx.ownsRow B 73 14 v L.length (famRow L)
  ge : ∀ x ∈ L, GE ns os x
  attrs : ∀ x ∈ L, ∃ ao cp, x.n.av = .slice ao x.n.attrs.length cp ∧ wx.ownsRow base 93 4 x.n.av x.n.attrs.length (attrRow x.n.attrs)
/-- A node that is handed out, with its children. -/
def famB (x : FamE) (ao : Option Addr) (cp : Nat) (v : Value) : Obj := .cells #[.int .i64 x.n.kind, .int .i64 x.n.space, .string x.n.name, .slice ao x.n.attrs.length cp, .string x.n.data, .string x.n.system, .int .i64 x.n.parent, .int .i64 x.n.first, .int .i64 x.n.last, .int .i64 x.n.prev, .int .i64 x.n.next, .int .i64 x.n.inner, v, .int .i64 x.d] 73
structure KX (base B : Nat) (v : Value) (l : List NodeM) (W : World) : Prop where
  own : W.ownsRow B 51 12 v l.length (nodeRow l)
  attrs : ∀ (i : Nat) n, l[i]? = some n → ∃ ao cp, n.av = .slice ao n.attrs.length cp ∧ W.ownsRow base 93 4 n.av n.attrs.length (attrRow n.attrs)
theorem KX.row {base B : Nat} {v : Value} {l : List NodeM} {W : World} (h : KX base B v l W) : ∃ a cp, v = .slice a l.length cp ∧ RowIn W a l := by
  have hat : ∀ (i : Nat) n, l[i]? = some n → ∃ ao cp, n.av = .slice ao n.attrs.length cp ∧ AttrsIn W ao n.attrs := fun i n hi => by
    obtain ⟨ao, cp, e, ha⟩ := h.attrs i n hi
    obtain ⟨a2, c2, e2, ha2⟩ := ownsRow_attrs ha
    exact ⟨a2, c2, e2, ha2⟩
  rcases h.own.2 with ⟨e, h0⟩ | ⟨g, cap, cur, e, _⟩
  · refine ⟨none, 0, by rw [e, h0], ⟨fun i n hi => ?_, hat⟩⟩
    rw [List.eq_nil_of_length_eq_zero h0] at hi
    cases hi
  · refine ⟨some ⟨g, 0, none⟩, cap, e, ⟨fun i n hi => ⟨g, 0, rfl, fun j u hj => ?_⟩, hat⟩⟩
    have hj12 : j < 12 := by have := (List.getElem?_eq_some_iff.1 hj).1; rwa [node_len] at this
    have hi2 := (List.getElem?_eq_some_iff.1 hi).1
    have ho := h.own
    rw [e] at ho
    rw [Nat.zero_add, ho.cellAt (i * 12 + j) (by omega), nodeRow, flat_get NodeM.cells 12 node_len l i j hj12, hi]
    exact hj
/-- A row is kept where only a block of another type is written. -/
theorem row_type {w w' : World} {base b n s : Nat} {e t : TypeId} {v : Value} {xs : List Value} {cs : Array Value} (h : w.ownsRow base e s v n xs) (hb : w.heap[b]? = some (.cells cs t (0, 0))) (hte : t ≠ e) (hm : ∀ k, k < w.heap.size → k ≠ b → w'.heap[k]? = w.heap[k]?) : w'.ownsRow base e s v n xs :=
  ownsRow_kept h (fun k hk => hm k (h.lt k hk).2 (fun ek => by
    obtain ⟨c1, h1⟩ := ownsRow_block h hk
    rw [ek, hb] at h1
    cases h1
    exact hte rfl))
theorem KX.kept {base B : Nat} {v : Value} {l : List NodeM} {W W' : World} (h : KX base B v l W) (hk : ∀ {base : Nat} {e : TypeId} {s : Nat} {v : Value} {n : Nat} {xs : List Value}, e ≠ 73 → W.ownsRow base e s v n xs → W'.ownsRow base e s v n xs) : KX base B v l W' :=
  ⟨hk (by decide) h.own, fun i n hi => by obtain ⟨ao, cp, e, ha⟩ := h.attrs i n hi; exact ⟨ao, cp, e, hk (by decide) ha⟩⟩
theorem set_other (w : World) (b j : Nat) (u : Value) : ∀ k, k < w.heap.size → k ≠ b → (w.setCell ⟨b, j, none⟩ u).heap[k]? = w.heap[k]? := fun _ _ hne => Below.heap_setCell _ _ _ _ hne
theorem row_down {w : World} {base base' : Nat} {e : TypeId} {size : Nat} {v : Value} {n : Nat} {xs : List Value} (h : w.ownsRow base e size v n xs) (hb : base' ≤ base) : w.ownsRow base' e size v n xs :=
  ⟨h.1, h.2.imp id fun ⟨g, cap, cur, h1, h2, h3⟩ => ⟨g, cap, cur, h1, Nat.le_trans hb h2, h3⟩⟩
theorem fam_mid {wr w2 : World} {base : Nat} {x : FamE} {ao : Option Addr} {cp : Nat} {v : Value} {l : List NodeM} (hK : KI base (wr.alloc (famB x ao cp (.slice none 0 0))) w2 v l) :
    w2.heap[wr.heap.size]? = some (famB x ao cp (.slice none 0 0)) ∧ (w2.setCell ⟨wr.heap.size, 12, none⟩ v).heap[wr.heap.size]? = some (famB x ao cp v) ∧ Below wr.heap.size wr (w2.setCell ⟨wr.heap.size, 12, none⟩ v) ∧ KX base wr.heap.size v l (w2.setCell ⟨wr.heap.size, 12, none⟩ v) := by
  have hb := hK.below
  have h1 : w2.heap[wr.heap.size]? = some (famB x ao cp (.slice none 0 0)) := (hb.block wr.heap.size (by simp)).trans (World.alloc_heap_new wr _)
  have h1' := h1
  unfold famB at h1'
  refine ⟨h1, ?_, ?_, ?_⟩
  · exact heap_setCell_same w2 wr.heap.size 12 _ 73 v h1'
  · exact ((below_new wr _).trans (hb.mono (by simp))).setCell (Nat.le_refl _) v
  · refine ⟨row_type ?_ h1' (by decide) (set_other _ _ _ _), fun i n hi => ?_⟩
    · have := hK.own
      rw [World.size_alloc] at this
      exact row_down this (by omega)
    · obtain ⟨ao2, cp2, e, ha⟩ := hK.attrs i n hi
      exact ⟨ao2, cp2, e, row_type ha h1' (by decide) (set_other _ _ _ _)⟩
theorem grown_kept {w w5 : World} {B n : Nat} {v : Value} {xs : List Value} (hR : w.ownsRow B 73 14 v n xs) (hg : w.grownBy w5 v.ownBlock) {base : Nat} {e : TypeId} {s : Nat} {u : Value} {m : Nat} {ys : List Value} (he : e ≠ 73) (h : w.ownsRow base e s u m ys) : w5.ownsRow base e s u m ys :=
  ownsRow_kept h (fun k hk => hg.block k (h.lt k hk).2 (fun ek => by
    obtain ⟨c1, h1⟩ := ownsRow_block h hk
    obtain ⟨c2, h2⟩ := ownsRow_block hR ek.symm
    rw [h1] at h2
    cases h2
    exact he rfl))
theorem Rest.below {ns : List NodeM} {os : List OneM} {base B : Nat} {L : List FamE} {v : Value} {w w' : World} (h : Rest ns os base B L v w) (hb : Below w.heap.size w w') : Rest ns os base B L v w' :=
  ⟨ownsRow_kept h.own (fun k hk => hb.block k (h.own.lt k hk).2), h.ge, fun x hx => by
    obtain ⟨ao, cp, e, ha⟩ := h.attrs x hx
    exact ⟨ao, cp, e, ownsRow_kept ha (fun k hk => hb.block k (ha.lt k hk).2)⟩⟩
theorem KX.below {base B : Nat} {v : Value} {l : List NodeM} {W W' : World} (h : KX base B v l W) (hb : Below W.heap.size W W') : KX base B v l W' :=
  h.kept (fun _ ho => ownsRow_kept ho (fun k hk => hb.block k (ho.lt k hk).2))
theorem rest_push {ns : List NodeM} {os : List OneM} {base B : Nat} {L : List FamE} {v v' : Value} {w w5 : World} {y : FamE} (hR : Rest ns os base B L v w) (hge : GE ns os y) (hy : ∃ ao cp, y.n.av = .slice ao y.n.attrs.length cp ∧ w.ownsRow base 93 4 y.n.av y.n.attrs.length (attrRow y.n.attrs))
    (hg : w.grownBy w5 v.ownBlock) (ho : w5.ownsRow B 73 14 v' (L.length + 1) (famRow L ++ y.cells)) : Rest ns os base B (L ++ [y]) v' w5 := by
  refine ⟨?_, fun x hx => ?_, fun x hx => ?_⟩
  · rw [famRow_app, famRow_one, List.length_append]
    exact ho
  · rcases List.mem_append.1 hx with h | h
    · exact hR.ge x h
    · rw [List.mem_singleton.1 h]; exact hge
  · rcases List.mem_append.1 hx with h | h
    · obtain ⟨ao, cp, e, ha⟩ := hR.attrs x h
      exact ⟨ao, cp, e, grown_kept hR.own hg (by decide) ha⟩
    · rw [List.mem_singleton.1 h]
      obtain ⟨ao, cp, e, ha⟩ := hy
      exact ⟨ao, cp, e, grown_kept hR.own hg (by decide) ha⟩
theorem fam_one (n : NodeM) (ao : Option Addr) (cp d i : Nat) (h : n.av = .slice ao n.attrs.length cp) : ∀ u ∈ (⟨n, i, d⟩ : FamE).cells, u.oneCell' = true := by
  intro u hu
  unfold FamE.cells at hu
  rcases List.mem_append.1 hu with hu | hu
  · exact cells_one n (by rw [h]; rfl) u hu
  · simp only [List.mem_cons, List.not_mem_nil, or_false] at hu
    rcases hu with rfl | rfl <;> rfl
theorem wpListIn_append_lies {F : Fence} {n : Nat} {P : Program} (w : World) {ops : Array Oper} {rest : List Oper} {o : Oper} {a : Act} {Q : Exit → Act → World → Prop}
    (hg : o.guard = none) (s x : Operand) (t : TypeId) (hop : o.op = Op.call { callee := Callee.builtin Builtin.append, args := #[s, x], argTypes := #[t, t] })
    (base : Nat) (e : TypeId) (i : TypeInfo) (z : Value) (size bytes : Nat) (h1 : P.underlying t = some (.slice e)) (h2 : P.info? e = some i) (h3 : i.zero = some z) (h4 : i.size = size) (h5 : i.bytes = bytes) (h6 : z.cells.size = size) (h7 : 0 < size)
    (v : Value) (k : Nat) (xs : List Value) (hs : a.eval s = v) (hown : w.ownsRow base e size v k xs) (ad : Addr) (m c : Nat) (news : List Value) (hx : a.eval x = .slice (some ad) m c) (hn : news.length = m * size)
    (hc : ∀ j u, news[j]? = some u → w.cell? (ad.add j) = some u) (h1c : ∀ u ∈ news, u.oneCell' = true) (hm : 0 < m) (b1 : k + m ≤ maxLen) (b2 : (k + m) * bytes ≤ 140737488355328) (b3 : base ≤ w.heap.size)
    (hK : ∀ g cap w', w'.ownsRow base e size (.slice (some ⟨g, 0, none⟩) (k + m) cap) (k + m) (xs ++ news) → w.grownBy w' v.ownBlock → (v.ownBlock = some g ∨ g = w.heap.size) → wpListIn F n P ops Q rest (a.put o.dst (.slice (some ⟨g, 0, none⟩) (k + m) cap)) w') :
    wpListIn F n P ops Q (o :: rest) a w := by
  refine wpListIn_plain hg fun K hK' => ?_
  obtain ⟨g, cap, w', hrun, r1, r2, r3, _⟩ := run_append_lies (P := P) (w := w) t o.type base e i z size bytes h1 h2 h3 h4 h5 h6 h7 v k xs hown ad m c news hn hc h1c hm b1 b2 b3 w.heap.size rfl
  unfold Oper.wpIn
  refine ⟨?_, ?_⟩
  · simp [Oper.about, hop, resolve, Target.leads, Sem.run_pure]
  · rw [Oper.semAt_plain F _ _ (by rw [hop]; intro c hc'; cases hc')]
    simp [execOp, hop, resolve, invoke, builtin, hs, hx, hrun, Result.andThen]
    exact hK' _ _ (hK g cap w' r1 r2 r3)
end Go.Proofs.YtmnmaenmoaehlaaGreatDoor
