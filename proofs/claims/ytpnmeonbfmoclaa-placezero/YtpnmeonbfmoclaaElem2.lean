import Derived.Test.YtpnmeonbfmoclaaElem
/-
  Element, where nothing is too long.
-/
namespace Go.Proofs.Ytpnmeonbfmoclaa
open Go.RowKit

theorem bcell {W w1 : World} (hb : Below W.heap.size W w1) : (∀ b o, b < W.heap.size → w1.cell? ⟨b, o, none⟩ = W.cell? ⟨b, o, none⟩) ∧ (∀ b o, b < W.heap.size → w1.frozen? ⟨b, o, none⟩ = W.frozen? ⟨b, o, none⟩) :=
  ⟨fun b o h => hb.cell (p := ⟨b, o, none⟩) h, fun b o h => hb.frozen (p := ⟨b, o, none⟩) h⟩

theorem elem_ready {w w1 w2 w4 w5 : World} {base bA bS g cap : Nat} {ns : List NodeM} (h : Ar w base bA bS g cap ns) (hb1 : Below w.heap.size w w1) (hb2 : Below w1.heap.size w1 w2) (o1 o2 : Obj)
    (hb4 : Below ((w2.alloc o1).alloc o2).heap.size ((w2.alloc o1).alloc o2) w4) (hm : Mod (fun k => k = w2.heap.size + 1) w4 w5) (l : List AttrM) (hl : l.length ≤ 1024) (v : Value)
    (hov : w4.ownsRow base 109 4 v l.length (attrRow l)) (hfr : ∀ k, v.ownBlock = some k → ((w2.alloc o1).alloc o2).heap.size ≤ k)
    (n : NodeM) (hav : n.av = v) (hat : n.attrs = l) (rest : List NodeM) (hrest : ∀ m ∈ rest, m.av = .slice none 0 0 ∧ m.attrs = []) :
    Below w.heap.size w w5 ∧ Ar w5 base bA bS g cap ns ∧ News w5 base ns (n :: rest) ∧ (∀ m ∈ n :: rest, ∀ k, m.av.ownBlock = some k → w.heap.size ≤ k) := by
  subst hav
  subst hat
  have s1 := hb1.size
  have s2 := hb2.size
  have hfr' : ∀ k, n.av.ownBlock = some k → w2.heap.size + 2 ≤ k := fun k hk => by have := hfr k hk; simpa using this
  have b : Below w.heap.size w w5 := by
    have b2 : Below w.heap.size w w2 := hb1.trans (hb2.mono s1)
    have b3 : Below w.heap.size w ((w2.alloc o1).alloc o2) := (b2.alloc b2.size _).alloc (by have := b2.size; simp; omega) _
    have b4 : Below w.heap.size w w4 := b3.trans (hb4.mono b3.size)
    exact b4.trans (hm.below b4.size (fun k hk => by have := b2.size; omega))
  have own5 : w5.ownsRow base 109 4 n.av n.attrs.length (attrRow n.attrs) := ownsRow_kept hov (fun k hk => by
    obtain ⟨cur, hc⟩ := ownsRow_block hov hk
    exact hm.block k (lt_of_block hc) (fun e => by have := hfr' k hk; omega))
  refine ⟨b, h.below b, ⟨?_, ?_, ?_⟩, ?_⟩
  · intro i m hi
    cases i with
    | zero => simp at hi; subst hi; exact own5
    | succ i => have := hrest m (List.mem_of_getElem? (by simpa using hi)); rw [this.1, this.2]; exact World.ownsRow_nil _ _ _ _
  · intro i m hi
    cases i with
    | zero => simp at hi; subst hi; exact hl
    | succ i => have := hrest m (List.mem_of_getElem? (by simpa using hi)); rw [this.2]; simp
  · have cls : ∀ (i : Nat) m, (ns ++ n :: rest)[i]? = some m → (i < ns.length ∧ ns[i]? = some m) ∨ (i = ns.length ∧ m = n) ∨ m.av.ownBlock = none := by
      intro i m hi
      by_cases hlt : i < ns.length
      · rw [List.getElem?_append_left hlt] at hi; exact .inl ⟨hlt, hi⟩
      · rw [List.getElem?_append_right (by omega)] at hi
        by_cases he : i = ns.length
        · subst he; simp at hi; exact .inr (.inl ⟨rfl, hi.symm⟩)
        · obtain ⟨d, hd⟩ : ∃ d, i - ns.length = d + 1 := ⟨i - ns.length - 1, by omega⟩
          rw [hd] at hi
          have := hrest m (List.mem_of_getElem? (by simpa using hi))
          exact .inr (.inr (by rw [this.1]; rfl))
    have old : ∀ (i : Nat) m, ns[i]? = some m → ∀ k, m.av.ownBlock = some k → k < w.heap.size := fun i m hi k hk => (h.foot_lt (.inr (.inr (.inr ⟨m, List.mem_of_getElem? hi, hk⟩)))).2
    intro i j x y hij hi hj
    rcases cls i x hi with ⟨_, hi'⟩ | ⟨ei, rfl⟩ | hx
    · rcases cls j y hj with ⟨_, hj'⟩ | ⟨ej, rfl⟩ | hy
      · exact h.apart i j x y hij hi' hj'
      · cases hv : x.av.ownBlock with
        | none => exact .inl rfl
        | some k =>
          refine .inr (fun e => ?_)
          have h1 := old i x hi' k hv
          have h2 := hfr' k e.symm
          omega
      · rw [hy]; cases hv : x.av.ownBlock <;> simp
    · rcases cls j y hj with ⟨_, hj'⟩ | ⟨ej, rfl⟩ | hy
      · cases hv : x.av.ownBlock with
        | none => exact .inl rfl
        | some k =>
          refine .inr (fun e => ?_)
          have h1 := old j y hj' k e.symm
          have h2 := hfr' k hv
          omega
      · omega
      · rw [hy]; cases hv : x.av.ownBlock <;> simp
    · exact .inl hx
  · intro m hm k hk
    rcases List.mem_cons.1 hm with rfl | hm
    · have := hfr' k hk; omega
    · rw [(hrest m hm).1] at hk; simp [Value.ownBlock] at hk

theorem mod3 (w : World) (b : Nat) (v1 v2 v3 : Value) (o : Obj) : Mod (fun k => k = b) w ((((w.setCell ⟨b, 1, none⟩ v1).setCell ⟨b, 2, none⟩ v2).setCell ⟨b, 3, none⟩ v3).alloc o) :=
  (((Mod.setCell (F := fun k => k = b) w ⟨b, 1, none⟩ v1 rfl).trans (Mod.setCell (F := fun k => k = b) _ ⟨b, 2, none⟩ v2 rfl)).trans (Mod.setCell (F := fun k => k = b) _ ⟨b, 3, none⟩ v3 rfl)).trans (Mod.alloc _ o)

/-- Is it the name template? -/
def isT (name : ByteArray) : Bool := name.toList == [116, 101, 109, 112, 108, 97, 116, 101]

end Go.Proofs.Ytpnmeonbfmoclaa
