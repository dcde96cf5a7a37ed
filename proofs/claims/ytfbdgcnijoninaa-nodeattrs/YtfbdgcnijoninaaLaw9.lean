/-
  What NodeAttrs leans on: an arena with one element; its attributes set and taken away, as one contract each; awake.
-/
import Derived.Test.YtfbdgcnijoninaaDel3
import Derived.Test.YtfbdgcnijoninaaElem2
import Derived.Test.YtfbdgcnijoninaaOpen
import Derived.Test.YtfbdgcnijoninaaTempl
namespace Go.Proofs.Ytfbdgcnijoninaa
open Go.RowKit

set_option maxHeartbeats 1000000 in
theorem awake_any (w : World) : Calls Try.prog 17 #[] w fun e w' => e = .returned (.bool true) ∧ Below w.heap.size w w' := by
  have HN := hide (new_any w w.heap.size (Nat.le_refl _))
  go_enter Try.func17, Try.ntmps17
  go_wp2_with fail
  refine (unhide HN).mono ?_
  rintro e w1 ⟨F, rfl, h1, hb1, hF⟩
  have HL := hide h1.len
  have HB := hide hb1
  clear h1 hb1 hF
  go_wp2_with (go_at_call 18; refine (unhide HL).mono ?_; rintro e w' ⟨rfl, rfl⟩)
  go_ret
  exact ⟨rfl, unhide HB⟩

/-- A is the place of the first one from k on, or the length. -/
def IsAt (p : AttrM → Bool) (l : List AttrM) (k A : Nat) : Prop :=
  (A = l.length ∧ ∀ (j : Nat) y, k ≤ j → l[j]? = some y → p y = false) ∨ (k ≤ A ∧ (∃ y, l[A]? = some y ∧ p y = true) ∧ ∀ (j : Nat) y, k ≤ j → j < A → l[j]? = some y → p y = false)

theorem isAt_end (p : AttrM → Bool) (l : List AttrM) : IsAt p l l.length l.length := .inl ⟨rfl, fun j y hj hy => by have := (List.getElem?_eq_some_iff.1 hy).1; omega⟩
theorem IsAt.hit {p : AttrM → Bool} {l : List AttrM} {k : Nat} {y : AttrM} (hy : l[k]? = some y) (hp : p y = true) : IsAt p l k k := .inr ⟨Nat.le_refl _, ⟨y, hy, hp⟩, fun j _ h1 h2 => by omega⟩
theorem IsAt.miss {p : AttrM → Bool} {l : List AttrM} {k A : Nat} (h : IsAt p l (k + 1) A) {y : AttrM} (hy : l[k]? = some y) (hp : p y = false) : IsAt p l k A := by
  have key : ∀ (j : Nat) z, k ≤ j → ¬ k + 1 ≤ j → l[j]? = some z → p z = false := by
    intro j z h1 h2 hz
    obtain rfl : j = k := by omega
    rw [hy] at hz; simp at hz; subst hz; exact hp
  rcases h with ⟨h1, h2⟩ | ⟨h1, h2, h3⟩
  · refine .inl ⟨h1, fun j z hj hz => ?_⟩
    by_cases hk : k + 1 ≤ j
    · exact h2 j z hk hz
    · exact key j z hj hk hz
  · refine .inr ⟨by omega, h2, fun j z hj hjA hz => ?_⟩
    by_cases hk : k + 1 ≤ j
    · exact h3 j z hk hjA hz
    · exact key j z hj hk hz

/-- The list behind SetAttr: the attribute stands at A, what is ahead of it is no such one. -/
structure SetOk (l : List AttrM) (x : AttrM) (A : Nat) (L : List AttrM) : Prop where
  len : L.length = max l.length (A + 1)
  few : L.length ≤ 1024
  hit : ∃ z, L[A]? = some z ∧ z.val = x.val ∧ (z.name.toList == x.name.toList) = true ∧ z.space = x.space
  idx : idxM (sameKey x.space x.name) L = A

theorem sameKey_split {s : Int} {nm : ByteArray} {y : AttrM} (h : sameKey s nm y = true) : y.space = s ∧ (y.name.toList == nm.toList) = true := by
  simp only [sameKey, Bool.and_eq_true] at h
  exact ⟨by simpa using h.1, h.2⟩

theorem setOk_found {l : List AttrM} {x : AttrM} {A : Nat} (hA : IsAt (sameKey x.space x.name) l 0 A) (hlt : A < l.length) (hl : l.length ≤ 1024) : SetOk l x A (setVal l A x.val) := by
  rcases hA with ⟨h1, _⟩ | ⟨_, ⟨y, hy, hp⟩, h3⟩
  · omega
  · obtain ⟨k1, k2⟩ := sameKey_split hp
    have hz : (setVal l A x.val)[A]? = some { y with val := x.val } := by rw [setVal_of hy, List.getElem?_set_self hlt]
    refine ⟨by rw [setVal_len]; omega, by rw [setVal_len]; exact hl, ⟨_, hz, rfl, k2, k1⟩, ?_⟩
    refine idxM_hit hz (by simpa [sameKey] using hp) (fun j z hj hz' => ?_)
    rw [setVal_of hy, List.getElem?_set_ne (by omega)] at hz'
    exact h3 j z (Nat.zero_le _) hj hz'

theorem setOk_new {l : List AttrM} {x : AttrM} (hA : IsAt (sameKey x.space x.name) l 0 l.length) (hl : l.length < 1024) : SetOk l x l.length (l ++ [x]) := by
  have hz : (l ++ [x])[l.length]? = some x := by simp
  refine ⟨by simp, by simp; omega, ⟨x, hz, rfl, by simp, rfl⟩, ?_⟩
  refine idxM_hit hz (by simp [sameKey]) (fun j z hj hz' => ?_)
  rw [List.getElem?_append_left hj] at hz'
  rcases hA with ⟨_, h2⟩ | ⟨_, ⟨y, hy, _⟩, _⟩
  · exact h2 j z (Nat.zero_le _) hz'
  · have := (List.getElem?_eq_some_iff.1 hy).1; omega

theorem isAt_idx {l : List AttrM} {p : AttrM → Bool} {A : Nat} (h : IsAt p l 0 A) : idxM p l = if A < l.length then (A : Int) else -1 := by
  rcases h with ⟨rfl, h2⟩ | ⟨_, ⟨y, hy, hp⟩, h3⟩
  · rw [if_neg (by omega)]; exact idxM_miss (fun j y _ hy => h2 j y (Nat.zero_le _) hy)
  · have := (List.getElem?_eq_some_iff.1 hy).1
    rw [if_pos this]; exact idxM_hit hy hp (fun j z hj hz => h3 j z (Nat.zero_le _) hj hz)

/-- An arena whose node 1 is an element with these attributes. -/
def One (w : World) (b0 bA : Nat) (l : List AttrM) (F : Nat → Prop) : Prop := ∃ ns n, ArS w b0 bA ns F ∧ ns[1]? = some n ∧ n.kind = 1 ∧ n.attrs = l

theorem One.below {w w' : World} {b0 bA : Nat} {l : List AttrM} {F : Nat → Prop} (h : One w b0 bA l F) (hb : Below w.heap.size w w') : One w' b0 bA l F := by
  obtain ⟨ns, n, h1, h2, h3, h4⟩ := h
  exact ⟨ns, n, h1.below hb, h2, h3, h4⟩

/-- Behind a call the arena's element has the attributes l. -/
def OneUpd (F : Nat → Prop) (w w' : World) (b0 bA : Nat) (l : List AttrM) : Prop := ∃ F', One w' b0 bA l F' ∧ Mod F w w' ∧ ∀ k, F' k → F k ∨ w.heap.size ≤ k

theorem One.stay {w w' : World} {b0 bA : Nat} {l : List AttrM} {F : Nat → Prop} (h : One w b0 bA l F) (hb : Below w.heap.size w w') : OneUpd F w w' b0 bA l :=
  ⟨F, h.below hb, Mod.of_below hb, fun _ hk => .inl hk⟩

theorem foot_set {bA bS g : Nat} {ns : List NodeM} {i : Nat} {n m : NodeM} (hi : ns[i]? = some n) {w : World} (hm : ∀ k, m.av.ownBlock = some k → n.av.ownBlock = some k ∨ w.heap.size ≤ k) (k : Nat) (h : foot bA bS g (ns.set i m) k) : foot bA bS g ns k ∨ w.heap.size ≤ k := by
  rcases h with h | h | h | ⟨x, hx, hk⟩
  · exact .inl (.inl h)
  · exact .inl (.inr (.inl h))
  · exact .inl (.inr (.inr (.inl h)))
  · obtain ⟨j, hj⟩ := List.mem_iff_getElem?.1 hx
    have hlt : i < ns.length := (List.getElem?_eq_some_iff.1 hi).1
    by_cases e : i = j
    · subst e; rw [List.getElem?_set_self hlt] at hj; simp at hj; subst hj
      exact (hm k hk).imp (fun h => .inr (.inr (.inr ⟨n, List.mem_of_getElem? hi, h⟩))) id
    · rw [List.getElem?_set_ne e] at hj
      exact .inl (.inr (.inr (.inr ⟨x, List.mem_of_getElem? hj, hk⟩)))

theorem oneUpd_of {w w' : World} {b0 bA bS g cap : Nat} {ns : List NodeM} {F : Nat → Prop} (hF : ∀ k, F k ↔ foot bA bS g ns k) {n m : NodeM} (hi : ns[1]? = some n) (har : Ar w' b0 bA bS g cap (ns.set 1 m)) (hk : m.kind = 1)
    (hm : Mod (fun k => n.av.ownBlock = some k ∨ k = g) w w') (hnew : ∀ k, m.av.ownBlock = some k → n.av.ownBlock = some k ∨ w.heap.size ≤ k) : OneUpd F w w' b0 bA m.attrs := by
  have hlt : 1 < ns.length := (List.getElem?_eq_some_iff.1 hi).1
  refine ⟨_, ⟨_, m, ⟨bS, g, cap, har, fun k => Iff.rfl⟩, by rw [List.getElem?_set_self hlt], hk, rfl⟩, hm.mono (fun k _ h => (hF k).2 ?_), fun k h => (foot_set hi hnew k h).imp (fun h => (hF k).2 h) id⟩
  rcases h with h | rfl
  · exact .inr (.inr (.inr ⟨n, List.mem_of_getElem? hi, h⟩))
  · exact .inr (.inr (.inl rfl))

/-- SetAttr of the element: refused, or done. -/
theorem one_set {w : World} {b0 bA : Nat} {l : List AttrM} {F : Nat → Prop} (h : One w b0 bA l F) (x : AttrM) (A : Nat) (hA : IsAt (sameKey x.space x.name) l 0 A) (hl : l.length ≤ 1024) (hAl : A ≤ l.length) :
    Calls Try.prog 29 #[.pointer (some ⟨bA, 0, none⟩), .int .i64 1, x.agg] w fun e w' =>
      (e = .returned (.int .i64 2) ∧ OneUpd F w w' b0 bA l) ∨ (e = .returned (.int .i64 0) ∧ ∃ L, SetOk l x A L ∧ OneUpd F w w' b0 bA L) := by
  have h0 := h
  obtain ⟨ns, n, ⟨bS, g, cap, har, hF⟩, h1, h2, rfl⟩ := h
  cases hx : x.long with
  | true => exact (setAttr_long har 1 x (mayAttr_elem h1 h2) hx).mono fun e w' ⟨he, hb⟩ => .inl ⟨he, h0.stay hb⟩
  | false =>
    have hidx := isAt_idx hA
    by_cases hlt : A < n.attrs.length
    · rw [if_pos hlt] at hidx
      refine (setAttr_found har 1 n h1 h2 x hx A hidx).mono fun e w' ⟨he, ha, hm⟩ => .inr ⟨he, _, setOk_found hA hlt hl, ?_⟩
      exact oneUpd_of hF h1 ha h2 (hm.mono (fun k _ h => .inl h)) (fun k hk => .inl hk)
    · rw [if_neg hlt] at hidx
      obtain rfl : A = n.attrs.length := by omega
      by_cases hm : n.attrs.length < 1024
      · refine (setAttr_new har 1 n h1 h2 x hx hidx hm).mono fun e w' ⟨he, av, ha, hmd, hnew⟩ => .inr ⟨he, _, setOk_new hA hm, ?_⟩
        exact oneUpd_of (m := { n with av := av, attrs := n.attrs ++ [x] }) hF h1 ha h2 hmd hnew
      · exact (setAttr_many har 1 n h1 h2 x hx hidx hm).mono fun e w' ⟨he, hb⟩ => .inl ⟨he, h0.stay hb⟩

theorem one_del {w : World} {b0 bA : Nat} {l L : List AttrM} {F : Nat → Prop} {x : AttrM} {A : Nat} (h : One w b0 bA L F) (hs : SetOk l x A L) :
    Calls Try.prog 30 #[.pointer (some ⟨bA, 0, none⟩), .int .i64 1, .int .i64 x.space, .string x.name] w fun e w' => e = .returned (.int .i64 0) ∧ OneUpd F w w' b0 bA (L.eraseIdx A) := by
  obtain ⟨ns, n, ⟨bS, g, cap, har, hF⟩, h1, h2, rfl⟩ := h
  refine (delAttr_found har 1 n h1 h2 x.space x.name A hs.idx).mono fun e w' ⟨he, av, ha, hmd, hnew⟩ => ⟨he, ?_⟩
  exact oneUpd_of (m := { n with av := av, attrs := n.attrs.eraseIdx A }) hF h1 ha h2 hmd hnew

/-- Node of the element. -/
theorem one_node {w : World} {b0 bA : Nat} {l : List AttrM} {F : Nat → Prop} (h : One w b0 bA l F) :
    Calls Try.prog 19 #[.pointer (some ⟨bA, 0, none⟩), .int .i64 1] w fun e w' => ∃ n ao cp, e = .returned (.tuple #[nodeV n (.slice ao l.length cp), .int .i64 0]) ∧ w'.ownsRow b0 29 4 (.slice ao l.length cp) l.length (attrRow l) ∧
      Below w.heap.size w w' ∧ (∀ k, (Value.slice ao l.length cp).ownBlock = some k → w.heap.size ≤ k) := by
  obtain ⟨ns, n, ha, h1, h2, rfl⟩ := h
  exact (node_in ha 1 n h1).mono fun e w' ⟨ao, cp, he, ho, hb, hf⟩ => ⟨n, ao, cp, he, ho, hb, hf⟩
end Go.Proofs.Ytfbdgcnijoninaa
