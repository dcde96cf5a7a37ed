/-
  SetAttr: an attribute's value, or an attribute more.
-/
import Derived.Test.YtlbkoafeedlfaaaCFind
import Derived.Test.YtlbkoafeedlfaaaCNode
import Derived.Test.YtlbkoafeedlfaaaCJoin
import Derived.Deep.RegionLaw
import Derived.Deep.AppendLies
namespace Go.Proofs.Ytlbkoafeedlfaaa
open Go.RowKit

theorem nodeRow_same {ns : List NodeM} {i : Nat} {n m : NodeM} (hi : ns[i]? = some n) (hm : m.cells = n.cells) : nodeRow (ns.set i m) = nodeRow ns := by
  have h0 : n.cells = n.cells.set 0 (.int .i64 n.kind) := by simp [NodeM.cells]
  have e1 := flat_set NodeM.cells 12 node_len ns i 0 (by omega) n m (.int .i64 n.kind) hi (by rw [hm]; exact h0)
  have e2 := flat_set NodeM.cells 12 node_len ns i 0 (by omega) n n (.int .i64 n.kind) hi h0
  have hlt : i < ns.length := (List.getElem?_eq_some_iff.1 hi).1
  have e3 : ns.set i n = ns := by
    apply List.ext_getElem?
    intro j
    by_cases h : i = j
    · subst h; rw [List.getElem?_set_self hlt]; exact hi.symm
    · rw [List.getElem?_set_ne h]
  rw [nodeRow, nodeRow, ← e1, e2, e3]

section
variable {w w1 : World} {base bA bS g cap : Nat} {ns : List NodeM}

theorem Ar.attrsOnly (h : Ar w base bA bS g cap ns) {i : Nat} {n : NodeM} (hi : ns[i]? = some n) (l : List AttrM) (hl : l.length ≤ 1024) (hown : Seg w1 base n.av l.length (attrRow l)) (hout : Out n.av w w1)
    (hold : ∀ k, foot bA bS g ns k → n.av.ownBlock ≠ some k → w1.heap[k]? = w.heap[k]?) : Ar w1 base bA bS g cap (ns.set i { n with attrs := l }) := by
  have hlt : i < ns.length := (List.getElem?_eq_some_iff.1 hi).1
  have hne := h.neAttr hi
  have old : ∀ (a : Nat) (x : NodeM), (ns.set i { n with attrs := l })[a]? = some x → (a = i ∧ x = { n with attrs := l }) ∨ (a ≠ i ∧ ns[a]? = some x) := by
    intro a x hx
    by_cases e : i = a
    · subst e; rw [List.getElem?_set_self hlt] at hx; simp at hx; exact .inl ⟨rfl, hx.symm⟩
    · rw [List.getElem?_set_ne e] at hx; exact .inr ⟨fun e' => e e'.symm, hx⟩
  refine ⟨by rw [hold bA (.inl rfl) hne.2.2]; exact h.arena, by rw [hold bS (.inr (.inl rfl)) hne.2.1, List.length_set]; exact h.store, ?_, h.lo1, h.lo2, by simpa using h.pos, by simpa using h.most, ?_, ?_, ?_⟩
  · rw [List.length_set, nodeRow_same hi (by rfl)]
    exact ownsRow_kept h.row (fun k hk => by simp [Value.ownBlock] at hk; subst hk; exact hold _ (.inr (.inr (.inl rfl))) hne.1)
  · intro a x hx
    rcases old a x hx with ⟨_, rfl⟩ | ⟨ha, hx'⟩
    · exact hown
    · exact (h.attrs a x hx').away (h.attrs i n hi) (h.apart i a n x (fun e => ha e.symm) hi hx') hout (fun k hk hne => hold k (.inr (.inr (.inr ⟨x, List.mem_of_getElem? hx', hk⟩))) hne)
  · intro a x hx
    rcases old a x hx with ⟨_, rfl⟩ | ⟨ha, hx'⟩
    · exact hl
    · exact h.few a x hx'
  · intro a b x y hab hx hy
    rcases old a x hx with ⟨ea, rfl⟩ | ⟨ha, hx'⟩ <;> rcases old b y hy with ⟨eb, rfl⟩ | ⟨hb, hy'⟩
    · omega
    · exact h.apart i b n y (by omega) hi hy'
    · exact h.apart a i x n (by omega) hx' hi
    · exact h.apart a b x y hab hx' hy'

theorem Ar.newAttrs (h : Ar w base bA bS g cap ns) {i : Nat} {n : NodeM} (hi : ns[i]? = some n) (av : Value) (l : List AttrM) (hl : l.length ≤ 1024) (hown : Seg w1 base av l.length (attrRow l)) (hout : Out n.av w w1)
    (hold : ∀ k, foot bA bS g ns k → n.av.ownBlock ≠ some k → w1.heap[k]? = w.heap[k]?) (hnew : ∀ k, av.ownBlock = some k → n.av.ownBlock = some k ∨ w.heap.size ≤ k) (hroom : ∀ k o m c, av = .slice (some ⟨k, o, none⟩) m c → k < w.heap.size → ∃ m', n.av = .slice (some ⟨k, o, none⟩) m' c) :
    Ar (w1.setCell ⟨g, i * 12 + 3, none⟩ av) base bA bS g cap (ns.set i { n with av := av, attrs := l }) := by
  have hlt : i < ns.length := (List.getElem?_eq_some_iff.1 hi).1
  have hne := h.neAttr hi
  have hoth : ∀ k, k ≠ g → (w1.setCell ⟨g, i * 12 + 3, none⟩ av).heap[k]? = w1.heap[k]? := fun k hk => Below.heap_setCell _ _ _ _ hk
  have old : ∀ (a : Nat) (x : NodeM), (ns.set i { n with av := av, attrs := l })[a]? = some x → (a = i ∧ x = { n with av := av, attrs := l }) ∨ (a ≠ i ∧ ns[a]? = some x) := by
    intro a x hx
    by_cases e : i = a
    · subst e; rw [List.getElem?_set_self hlt] at hx; simp at hx; exact .inl ⟨rfl, hx.symm⟩
    · rw [List.getElem?_set_ne e] at hx; exact .inr ⟨fun e' => e e'.symm, hx⟩
  have avg : av.ownBlock ≠ some g := by
    intro e
    rcases hnew g e with h1 | h1
    · exact hne.1 h1
    · have := h.lt.2.2; omega
  have oldlt : ∀ (a : Nat) x, ns[a]? = some x → ∀ k, x.av.ownBlock = some k → k < w.heap.size := fun a x hx k hk => (h.foot_lt (.inr (.inr (.inr ⟨x, List.mem_of_getElem? hx, hk⟩)))).2
  have row1 : w1.ownsRow base 37 12 (.slice (some ⟨g, 0, none⟩) ns.length cap) ns.length (nodeRow ns) := ownsRow_kept h.row (fun k hk => by simp [Value.ownBlock] at hk; subst hk; exact hold _ (.inr (.inr (.inl rfl))) hne.1)
  refine ⟨by rw [hoth bA h.neAg, hold bA (.inl rfl) hne.2.2]; exact h.arena, by rw [hoth bS h.neSg, hold bS (.inr (.inl rfl)) hne.2.1, List.length_set]; exact h.store, ?_, h.lo1, h.lo2, by simpa using h.pos, by simpa using h.most, ?_, ?_, ?_⟩
  · rw [List.length_set, nodeRow, ← flat_set NodeM.cells 12 node_len ns i 3 (by omega) n { n with av := av, attrs := l } av hi (by simp [NodeM.cells])]
    exact (row1.stored (i * 12 + 3) av).1
  · intro a x hx
    rcases old a x hx with ⟨_, rfl⟩ | ⟨ha, hx'⟩
    · exact hown.other avg _
    · exact ((h.attrs a x hx').away (h.attrs i n hi) (h.apart i a n x (fun e => ha e.symm) hi hx') hout (fun k hk hne => hold k (.inr (.inr (.inr ⟨x, List.mem_of_getElem? hx', hk⟩))) hne)).other (h.neAttr hx').1 _
  · intro a x hx
    rcases old a x hx with ⟨_, rfl⟩ | ⟨ha, hx'⟩
    · exact hl
    · exact h.few a x hx'
  · have key : ∀ (b : Nat) y, b ≠ i → ns[b]? = some y → Away av y.av := by
      intro b y hb hy k o m c o' m' c' h1 h2
      have hlt := oldlt b y hy k (by rw [h2]; rfl)
      obtain ⟨m2, h3⟩ := hroom k o m c h1 hlt
      exact h.apart i b n y (fun e => hb e.symm) hi hy k o m2 c o' m' c' h3 h2
    intro a b x y hab hx hy
    rcases old a x hx with ⟨ea, rfl⟩ | ⟨ha, hx'⟩ <;> rcases old b y hy with ⟨eb, rfl⟩ | ⟨hb, hy'⟩
    · omega
    · exact key b y hb hy'
    · exact (key a x ha hx').symm
    · exact h.apart a b x y hab hx' hy'
end

/-- The list with another value at j. -/
def setVal (l : List AttrM) (j : Nat) (v : ByteArray) : List AttrM := match l[j]? with | some x => l.set j { x with val := v } | none => l

theorem setVal_of {l : List AttrM} {j : Nat} {x : AttrM} (h : l[j]? = some x) (v : ByteArray) : setVal l j v = l.set j { x with val := v } := by simp [setVal, h]
theorem setVal_len (l : List AttrM) (j : Nat) (v : ByteArray) : (setVal l j v).length = l.length := by unfold setVal; split <;> simp

theorem idxM_lt {p : AttrM → Bool} {l : List AttrM} (h : ¬ idxM p l < 0) : ∃ j : Nat, idxM p l = j ∧ j < l.length := by
  unfold idxM at *
  cases hf : l.findIdx? p with
  | none => rw [hf] at h; simp at h
  | some j =>
    have := List.findIdx?_eq_some_iff_getElem.1 hf
    obtain ⟨hj, _⟩ := this
    exact ⟨j, rfl, hj⟩
end Go.Proofs.Ytlbkoafeedlfaaa
