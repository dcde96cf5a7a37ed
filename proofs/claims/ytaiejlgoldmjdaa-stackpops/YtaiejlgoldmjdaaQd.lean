/-
  What leaves a stack and what stays: plain.
-/
import Derived.Test.YtaiejlgoldmjdaaQa
namespace Go.Proofs.Ytaiejlgoldmjdaa
open Go.RowKit

theorem lastI_take {p : Int → Bool} {S : List Int} {x : Int} : ∀ {n : Nat}, n ≤ S.length → lastI p (S ++ [x]) n = lastI p S n
  | 0, _ => rfl
  | n + 1, h => by
    rw [lastI, lastI, List.getElem?_append_left (by omega), lastI_take (by omega)]
theorem lastI_snoc {p : Int → Bool} {S : List Int} {x : Int} : lastI p (S ++ [x]) (S ++ [x]).length = if p x then some S.length else lastI p S S.length := by
  rw [List.length_append, List.length_singleton, lastI, List.getElem?_append_right (Nat.le_refl _), Nat.sub_self]
  simp only [List.getElem?_cons_zero]
  rw [lastI_take (Nat.le_refl _)]
/-- The place of the last one of a name, -1. -/
def lastZ (ks : List Key) (S : List Int) (name : ByteArray) : Int := match popToI ks S name with
  | some j => (j : Int)
  | none => -1
theorem lastZ_yes {ks : List Key} {S : List Int} {name : ByteArray} {x : Int} (h : namedM (calOf ks x) name = true) : lastZ ks (S ++ [x]) name = S.length := by
  unfold lastZ popToI
  rw [lastI_snoc]
  simp only [h, if_true]
theorem lastZ_no {ks : List Key} {S : List Int} {name : ByteArray} {x : Int} (h : namedM (calOf ks x) name = false) : lastZ ks (S ++ [x]) name = lastZ ks S name := by
  unfold lastZ popToI
  rw [lastI_snoc]
  simp only [h, Bool.false_eq_true, if_false]
theorem leaveN_stop {p : Int → Bool} {L : List Int} {m : Nat} : ∀ {n : Nat}, n ≤ L.length → leaveN p L n = m + 1 → ∃ x, L[m]? = some x ∧ p x = false
  | 0, _, h => by simp [leaveN] at h
  | n + 1, hn, h => by
    rw [leaveN] at h
    obtain ⟨x, hx⟩ : ∃ x, L[n]? = some x := ⟨_, List.getElem?_eq_getElem (by omega)⟩
    rw [hx] at h
    simp only at h
    by_cases hp : p x = true
    · rw [if_pos hp] at h
      exact leaveN_stop (by omega) h
    · rw [if_neg hp] at h
      obtain rfl : n = m := by omega
      exact ⟨x, hx, by simpa using hp⟩

theorem imp_has (n : ByteArray) (h : (n.toList == [112]) = true ∨ (n.toList == [108, 105]) = true) : hasT impT n = true := by
  rcases h with h | h
  · have e := eq_of_beq h
    unfold hasT
    simp only [e]
    decide +kernel
  · have e := eq_of_beq h
    unfold hasT
    simp only [e]
    decide +kernel
theorem part_has (n : ByteArray) (h : (n.toList == [116, 114]) = true) : hasT partT n = true := by
  have e := eq_of_beq h
  unfold hasT
  simp only [e]
  decide +kernel
theorem imp_stop {c : Cal} {name : ByteArray} (h : impM c name = false) (hs : (c.space == 0) = true) (hn : (c.name.toList == [112]) = true ∨ (c.name.toList == [108, 105]) = true) : (c.name.toList == name.toList) = true := by
  unfold impM at h
  rw [namedM_eq] at h
  unfold amongM at h
  rw [imp_has c.name hn, hs] at h
  simpa using h
theorem thor_stop {c : Cal} (h : thorM c = false) (hs : (c.space == 0) = true) : (c.name.toList == [116, 114]) = false ∧ (c.name.toList == [112]) = false := by
  unfold thorM amongM at h
  rw [hs] at h
  simp only [Bool.true_and, Bool.or_eq_false_iff] at h
  refine ⟨?_, ?_⟩
  · cases hq : (c.name.toList == [116, 114]) with
    | false => rfl
    | true => rw [part_has c.name hq] at h; exact absurd h.2 (by decide)
  · cases hq : (c.name.toList == [112]) with
    | false => rfl
    | true => rw [imp_has c.name (.inl hq)] at h; exact absurd h.1 (by decide)

/-- The top of what stays, and what it is called. -/
theorem top_take {S : List Int} {m : Nat} {x : Int} (hx : S[m]? = some x) : topM (S.take (m + 1)) = x := by
  have hlt := (List.getElem?_eq_some_iff.1 hx).1
  unfold topM
  rw [show (((S.take (m + 1)).length : Int) - 1) = (m : Int) by rw [List.length_take]; omega]
  exact atM_in (by rw [List.getElem?_take, if_pos (by omega)]; exact hx)
theorem el_key {ks : List Key} {x : Int} (h : (elOf ks x).isSome = true) : ∃ sp nm, keyAt ks x = some ⟨1, sp, nm⟩ ∧ calOf ks x = ⟨sp, nm⟩ := by
  cases hk : keyAt ks x with
  | none => rw [elOf_none hk] at h; cases h
  | some q =>
    obtain ⟨qk, sp, nm⟩ := q
    have e := elOf_key hk
    by_cases h1 : qk = 1
    · subst h1
      exact ⟨sp, nm, rfl, by unfold calOf; rw [e]; rfl⟩
    · rw [e, if_neg h1] at h; cases h
/-- Behind Implied: nothing stays, or the top is an element that may not go. -/
theorem imp_cases {ks : List Key} {S : List Int} (hg : Good ks S) (name : ByteArray) : (impN ks S name = 0) ∨ ∃ m x sp nm, impN ks S name = m + 1 ∧ m < S.length ∧ topM (S.take (impN ks S name)) = x ∧ keyAt ks x = some ⟨1, sp, nm⟩ ∧ impM ⟨sp, nm⟩ name = false := by
  cases h : impN ks S name with
  | zero => exact .inl rfl
  | succ m =>
    obtain ⟨x, hx, hp⟩ := leaveN_stop (Nat.le_refl _) h
    obtain ⟨sp, nm, hk, hc⟩ := el_key (hg.el x (List.mem_of_getElem? hx))
    exact .inr ⟨m, x, sp, nm, rfl, (List.getElem?_eq_some_iff.1 hx).1, top_take hx, hk, by rw [← hc]; exact hp⟩
theorem thor_cases {ks : List Key} {S : List Int} (hg : Good ks S) : (thorN ks S = 0) ∨ ∃ m x sp nm, thorN ks S = m + 1 ∧ m < S.length ∧ topM (S.take (thorN ks S)) = x ∧ keyAt ks x = some ⟨1, sp, nm⟩ ∧ thorM ⟨sp, nm⟩ = false := by
  cases h : thorN ks S with
  | zero => exact .inl rfl
  | succ m =>
    obtain ⟨x, hx, hp⟩ := leaveN_stop (Nat.le_refl _) h
    obtain ⟨sp, nm, hk, hc⟩ := el_key (hg.el x (List.mem_of_getElem? hx))
    exact .inr ⟨m, x, sp, nm, rfl, (List.getElem?_eq_some_iff.1 hx).1, top_take hx, hk, by rw [← hc]; exact hp⟩
theorem keyAt_neg (ks : List Key) : keyAt ks (-1) = none := rfl

section
variable {w wx : World} {obs : List (Ob w.heap.size)}
theorem env_node_no (h : Env w wx obs) {i bA : Nat} {ks : List Key} (hi : obs[i]? = some (arOb _ bA ks)) {id : Int} (hq : keyAt ks id = none) :
    Calls Try.prog 17 #[.pointer (some ⟨bA, 0, none⟩), .int .i64 id] wx fun e w' => e = .returned (.tuple #[nodeZ, .int .i64 6]) ∧ Env w w' obs := by
  obtain ⟨F, h1, _⟩ := h.ar hi
  exact (node_k_no h1 hq).mono fun _ _ ⟨a, b⟩ => ⟨a, h.more b⟩
end

/-- Twelve cells of a block written. -/
theorem Env.wrote {w wx : World} {obs : List (Ob w.heap.size)} {i K : Nat} {t : TypeId} {a0 a1 a2 a3 a4 a5 a6 a7 a8 a9 a10 a11 : Value} (h : Env w wx obs) (hi : obs[i]? = some (blkOb _ K #[a0, a1, a2, a3, a4, a5, a6, a7, a8, a9, a10, a11] t)) (v0 v1 v2 v3 v4 v5 v6 v7 v8 v9 v10 v11 : Value) :
    Env w ((((((((((((wx.setCell ⟨K, 0, none⟩ v0).setCell ⟨K, 1, none⟩ v1).setCell ⟨K, 2, none⟩ v2).setCell ⟨K, 3, none⟩ v3).setCell ⟨K, 4, none⟩ v4).setCell ⟨K, 5, none⟩ v5).setCell ⟨K, 6, none⟩ v6).setCell ⟨K, 7, none⟩ v7).setCell ⟨K, 8, none⟩ v8).setCell ⟨K, 9, none⟩ v9).setCell ⟨K, 10, none⟩ v10).setCell ⟨K, 11, none⟩ v11) (obs.set i (blkOb _ K #[v0, v1, v2, v3, v4, v5, v6, v7, v8, v9, v10, v11] t)) := by
  obtain ⟨F, ho, _, hk⟩ := h.upd hi
  have hb := ho.2.1
  have h0 := heap_setCell_same _ K 0 _ t v0 hb
  have h1 := heap_setCell_same _ K 1 _ t v1 h0
  have h2 := heap_setCell_same _ K 2 _ t v2 h1
  have h3 := heap_setCell_same _ K 3 _ t v3 h2
  have h4 := heap_setCell_same _ K 4 _ t v4 h3
  have h5 := heap_setCell_same _ K 5 _ t v5 h4
  have h6 := heap_setCell_same _ K 6 _ t v6 h5
  have h7 := heap_setCell_same _ K 7 _ t v7 h6
  have h8 := heap_setCell_same _ K 8 _ t v8 h7
  have h9 := heap_setCell_same _ K 9 _ t v9 h8
  have h10 := heap_setCell_same _ K 10 _ t v10 h9
  have h11 := heap_setCell_same _ K 11 _ t v11 h10
  rw [arr12] at h11
  have st : ∀ (w1 : World) (j : Nat) (v : Value), Mod F wx w1 → Mod F wx (w1.setCell ⟨K, j, none⟩ v) := fun w1 j v h => h.trans (Mod.setCell w1 ⟨K, j, none⟩ v ((ho.2.2 K).2 rfl))
  refine hk _ (blkOb _ K #[v0, v1, v2, v3, v4, v5, v6, v7, v8, v9, v10, v11] t) F ⟨ho.1, h11, ho.2.2⟩ ?_ (fun k hk => .inl hk)
  exact st _ _ _ (st _ _ _ (st _ _ _ (st _ _ _ (st _ _ _ (st _ _ _ (st _ _ _ (st _ _ _ (st _ _ _ (st _ _ _ (st _ _ _ (st _ _ _ (Mod.refl _ _))))))))))))
theorem row12 {w : World} {K : Nat} {t : TypeId} {a0 a1 a2 a3 a4 a5 a6 a7 a8 a9 a10 a11 : Value} (h : w.heap[K]? = some (.cells #[a0, a1, a2, a3, a4, a5, a6, a7, a8, a9, a10, a11] t (0, 0))) :
    (w.cell? ⟨K, 0, none⟩ = some a0 ∧ w.cell? ⟨K, 1, none⟩ = some a1 ∧ w.cell? ⟨K, 2, none⟩ = some a2 ∧ w.cell? ⟨K, 3, none⟩ = some a3 ∧ w.cell? ⟨K, 4, none⟩ = some a4 ∧ w.cell? ⟨K, 5, none⟩ = some a5 ∧ w.cell? ⟨K, 6, none⟩ = some a6 ∧ w.cell? ⟨K, 7, none⟩ = some a7 ∧ w.cell? ⟨K, 8, none⟩ = some a8 ∧ w.cell? ⟨K, 9, none⟩ = some a9 ∧ w.cell? ⟨K, 10, none⟩ = some a10 ∧ w.cell? ⟨K, 11, none⟩ = some a11) ∧ ∀ j, w.frozen? ⟨K, j, none⟩ = false := by
  refine ⟨⟨?_, ?_, ?_, ?_, ?_, ?_, ?_, ?_, ?_, ?_, ?_, ?_⟩, fun j => by simp [World.frozen?, h]⟩ <;> simp [World.cell?, h]
end Go.Proofs.Ytaiejlgoldmjdaa
