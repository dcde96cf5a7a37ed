/-
  Wider and narrower scopes; the elements of an arena, in order: plain. A box beside other objects. What leaves a stack and what stays: plain.
-/
import Derived.Test.YtmllhebmaldgfaaXEb
namespace Go.Proofs.Ytmllhebmaldgfaa
open Go.RowKit

theorem reachI_mono {want bord bord' : Int → Bool} {L : List Int} (h : ∀ x, bord' x = true → bord x = true) : ∀ n, reachI want bord L n = true → reachI want bord' L n = true
  | 0, e => by simp [reachI] at e
  | n + 1, e => by
    rw [reachI] at e ⊢
    cases hx : L[n]? with
    | none => rw [hx] at e; cases e
    | some x =>
      rw [hx] at e
      simp only at e ⊢
      by_cases hw : want x = true
      · rw [if_pos hw]
      · rw [if_neg hw] at e ⊢
        by_cases hb : bord x = true
        · rw [if_pos hb] at e; cases e
        · rw [if_neg hb] at e
          rw [if_neg (fun hb' => hb (h x hb'))]
          exact reachI_mono h n e
theorem reachI_some {want bord : Int → Bool} {L : List Int} : ∀ n, reachI want bord L n = true → ∃ x ∈ L, want x = true
  | 0, e => by simp [reachI] at e
  | n + 1, e => by
    rw [reachI] at e
    cases hx : L[n]? with
    | none => rw [hx] at e; cases e
    | some x =>
      rw [hx] at e
      simp only at e
      by_cases hw : want x = true
      · exact ⟨x, List.mem_of_getElem? hx, hw⟩
      · rw [if_neg hw] at e
        split at e
        · cases e
        · exact reachI_some n e

theorem scope_five (ks : List Key) (S : List Int) (name : ByteArray) : scopeM ks S name 5 = false := rfl
theorem scope_neg (ks : List Key) (S : List Int) (name : ByteArray) : scopeM ks S name (-1) = false := rfl
theorem scope_list {ks : List Key} {S : List Int} {name : ByteArray} (h : scopeM ks S name 1 = true) : scopeM ks S name 0 = true := by
  unfold scopeM at *
  rw [if_neg (by omega)] at h ⊢
  refine reachI_mono (fun x hx => ?_) _ h
  have hx : plainM (calOf ks x) = true := hx
  show (plainM (calOf ks x) || _ || _) = true
  rw [hx]
  rfl
theorem scope_button {ks : List Key} {S : List Int} {name : ByteArray} (h : scopeM ks S name 2 = true) : scopeM ks S name 0 = true := by
  unfold scopeM at *
  rw [if_neg (by omega)] at h ⊢
  refine reachI_mono (fun x hx => ?_) _ h
  have hx : plainM (calOf ks x) = true := hx
  show (plainM (calOf ks x) || _) = true
  rw [hx]
  rfl
theorem tbl_bord (n : ByteArray) (h : hasT tblT n = true) : hasT bordT n = true := by
  unfold hasT at *
  rw [List.any_eq_true] at h ⊢
  obtain ⟨x, hx, e⟩ := h
  refine ⟨x, ?_, e⟩
  simp only [tblT, List.mem_cons, List.not_mem_nil, or_false] at hx
  simp only [bordT, List.mem_cons, List.not_mem_nil, or_false]
  rcases hx with rfl | rfl | rfl <;> simp
theorem scope_table {ks : List Key} {S : List Int} {name : ByteArray} (h : scopeM ks S name 0 = true) : scopeM ks S name 3 = true := by
  unfold scopeM at *
  rw [if_neg (by omega)] at h ⊢
  refine reachI_mono (fun x hx => ?_) _ h
  have hx : ((calOf ks x).space == 0 && hasT tblT (calOf ks x).name) = true := hx
  show (((calOf ks x).space == 0 && hasT bordT (calOf ks x).name) || _) = true
  simp only [Bool.and_eq_true] at hx
  rw [hx.1, tbl_bord _ hx.2]
  rfl

/-- The elements under n, in order. -/
def elsTo (ks : List Key) : Nat → List Int
  | 0 => []
  | n + 1 => if 1 ≤ n ∧ (elOf ks (n : Int)).isSome = true then elsTo ks n ++ [(n : Int)] else elsTo ks n
theorem elsTo_mem {ks : List Key} {x : Int} : ∀ {n : Nat}, x ∈ elsTo ks n → ∃ j : Nat, x = (j : Int) ∧ 1 ≤ j ∧ j < n ∧ (elOf ks x).isSome = true
  | 0, h => by simp [elsTo] at h
  | n + 1, h => by
    rw [elsTo] at h
    split at h
    · rename_i hc
      rcases List.mem_append.1 h with h | h
      · obtain ⟨j, e, h1, h2, h3⟩ := elsTo_mem h
        exact ⟨j, e, h1, by omega, h3⟩
      · simp at h
        subst h
        exact ⟨n, rfl, hc.1, by omega, hc.2⟩
    · obtain ⟨j, e, h1, h2, h3⟩ := elsTo_mem h
      exact ⟨j, e, h1, by omega, h3⟩
theorem elsTo_nodup (ks : List Key) : ∀ n, (elsTo ks n).Nodup
  | 0 => by simp [elsTo]
  | n + 1 => by
    rw [elsTo]
    split
    · rw [List.nodup_append]
      refine ⟨elsTo_nodup ks n, by simp, ?_⟩
      intro a ha b hb e
      simp at hb
      subst hb e
      obtain ⟨j, e, _, h2, _⟩ := elsTo_mem ha
      omega
    · exact elsTo_nodup ks n
theorem good_els (ks : List Key) (n : Nat) : Good ks (elsTo ks n) := ⟨elsTo_nodup ks n, fun _ hx => by
  obtain ⟨_, _, _, _, h⟩ := elsTo_mem hx
  exact h⟩
theorem els_yes {ks : List Key} {n : Nat} (h1 : 1 ≤ n) (h : (elOf ks (n : Int)).isSome = true) : enterE ks (elsTo ks n) (n : Int) = 0 ∧ pushL ks (elsTo ks n) (n : Int) = elsTo ks (n + 1) := by
  have e : enterE ks (elsTo ks n) (n : Int) = 0 := by
    unfold enterE
    rw [if_pos h, if_neg (fun hm => by obtain ⟨j, e, _, h2, _⟩ := elsTo_mem hm; omega)]
  exact ⟨e, by rw [pushL, if_pos e, elsTo, if_pos ⟨h1, h⟩]⟩
theorem els_no {ks : List Key} {n : Nat} (h : elOf ks (n : Int) = none) : elsTo ks (n + 1) = elsTo ks n := by
  rw [elsTo, if_neg (by rw [h]; simp)]
theorem els_last {ks : List Key} {n : Nat} (h1 : 1 ≤ n) (h : (elOf ks (n : Int)).isSome = true) : elsTo ks (n + 1) = elsTo ks n ++ [(n : Int)] := by rw [elsTo, if_pos ⟨h1, h⟩]

/-- Is one of these of that name? -/
def thereM (ks : List Key) (name : ByteArray) (S : List Int) : Bool := S.any fun x => namedM (calOf ks x) name
theorem thereM_snoc (ks : List Key) (name : ByteArray) (S : List Int) (x : Int) : thereM ks name (S ++ [x]) = (thereM ks name S || namedM (calOf ks x) name) := by simp [thereM]
theorem scope_there {ks : List Key} {S : List Int} {name : ByteArray} {k : Int} (h : scopeM ks S name k = true) : thereM ks name S = true := by
  unfold scopeM at h
  split at h
  · cases h
  · obtain ⟨x, hx, hw⟩ := reachI_some _ h
    exact List.any_eq_true.2 ⟨x, hx, hw⟩
theorem namedM_eq (c : Cal) (n : ByteArray) : namedM c n = (c.space == 0 && (c.name.toList == n.toList)) := by simp [namedM, amongM, hasT]

/-- A block of its own. -/
def blkOb (base K : Nat) (cs : Array Value) (t : TypeId) : Ob base := ⟨fun w F => base ≤ K ∧ w.heap[K]? = some (.cells cs t (0, 0)) ∧ ∀ k, F k ↔ k = K, fun _ _ k h hk => by
    have := (h.2.2 k).1 hk
    subst this
    exact ⟨h.1, lt_of_block h.2.1⟩, fun w w' F G h hm hG => ⟨h.1, (hm.block K (lt_of_block h.2.1) (hG K ((h.2.2 K).2 rfl))).trans h.2.1, h.2.2⟩⟩

section
variable {w wx : World} {obs : List (Ob w.heap.size)}
theorem Env.boxed (h : Env w wx obs) (cs : Array Value) (t : TypeId) : Env w (wx.alloc (.cells cs t)) (obs ++ [blkOb _ wx.heap.size cs t]) :=
  h.add (o := blkOb _ wx.heap.size cs t) (F := fun k => k = wx.heap.size) (below_new _ _) ⟨h.bel.size, heap_alloc_new wx _, fun _ => Iff.rfl⟩ (fun k hk => by omega)
theorem Env.block (h : Env w wx obs) {i K : Nat} {cs : Array Value} {t : TypeId} (hi : obs[i]? = some (blkOb _ K cs t)) : wx.heap[K]? = some (.cells cs t (0, 0)) := by
  obtain ⟨F, ho, _⟩ := h.upd hi
  exact ho.2.1
theorem env_node (h : Env w wx obs) {i bA : Nat} {ks : List Key} (hi : obs[i]? = some (arOb _ bA ks)) {id : Int} {q : Key} (hq : keyAt ks id = some q) :
    Calls Try.prog 18 #[.pointer (some ⟨bA, 0, none⟩), .int .i64 id] wx fun e w' => ∃ (n : NodeM) (ao : Option Addr) (m c : Nat), e = .returned (.tuple #[nodeV n (.slice ao m c), .int .i64 0]) ∧ keyN n = q ∧ Env w w' obs := by
  obtain ⟨F, h1, _⟩ := h.ar hi
  refine (node_k h1 hq).mono ?_
  rintro e w' ⟨n, ao, m, c, rfl, e2, hb⟩
  exact ⟨n, ao, m, c, rfl, e2, h.more hb⟩
end
end Go.Proofs.Ytmllhebmaldgfaa

namespace Go.Proofs.Ytmllhebmaldgfaa
open Go.RowKit

theorem lastI_take {p : Int → Bool} {S : List Int} {x : Int} : ∀ {n : Nat}, n ≤ S.length → lastI p (S ++ [x]) n = lastI p S n
  | 0, _ => rfl
  | n + 1, h => by
    rw [lastI, lastI, List.getElem?_append_left (by omega), lastI_take (by omega)]
theorem lastI_snoc {p : Int → Bool} {S : List Int} {x : Int} : lastI p (S ++ [x]) (S ++ [x]).length = if p x then some S.length else lastI p S S.length := by
  rw [List.length_append, List.length_singleton, lastI, List.getElem?_append_right (Nat.le_refl _), Nat.sub_self]
  simp only [List.getElem?_cons_zero]
  rw [lastI_take (Nat.le_refl _)]
/-- The place of the last one of a name, -1. -/
def lastZ (ks : List Key) (S : List Int) (name : ByteArray) : Int := match popToI ks S name with
  | some j => (j : Int)
  | none => -1
theorem lastZ_yes {ks : List Key} {S : List Int} {name : ByteArray} {x : Int} (h : namedM (calOf ks x) name = true) : lastZ ks (S ++ [x]) name = S.length := by
  unfold lastZ popToI
  rw [lastI_snoc]
  simp only [h, if_true]
theorem lastZ_no {ks : List Key} {S : List Int} {name : ByteArray} {x : Int} (h : namedM (calOf ks x) name = false) : lastZ ks (S ++ [x]) name = lastZ ks S name := by
  unfold lastZ popToI
  rw [lastI_snoc]
  simp only [h, Bool.false_eq_true, if_false]
theorem leaveN_stop {p : Int → Bool} {L : List Int} {m : Nat} : ∀ {n : Nat}, n ≤ L.length → leaveN p L n = m + 1 → ∃ x, L[m]? = some x ∧ p x = false
  | 0, _, h => by simp [leaveN] at h
  | n + 1, hn, h => by
    rw [leaveN] at h
    obtain ⟨x, hx⟩ : ∃ x, L[n]? = some x := ⟨_, List.getElem?_eq_getElem (by omega)⟩
    rw [hx] at h
    simp only at h
    by_cases hp : p x = true
    · rw [if_pos hp] at h
      exact leaveN_stop (by omega) h
    · rw [if_neg hp] at h
      obtain rfl : n = m := by omega
      exact ⟨x, hx, by simpa using hp⟩

theorem imp_has (n : ByteArray) (h : (n.toList == [112]) = true ∨ (n.toList == [108, 105]) = true) : hasT impT n = true := by
  rcases h with h | h
  · have e := eq_of_beq h
    unfold hasT
    simp only [e]
    decide +kernel
  · have e := eq_of_beq h
    unfold hasT
    simp only [e]
    decide +kernel
theorem part_has (n : ByteArray) (h : (n.toList == [116, 114]) = true) : hasT partT n = true := by
  have e := eq_of_beq h
  unfold hasT
  simp only [e]
  decide +kernel
theorem imp_stop {c : Cal} {name : ByteArray} (h : impM c name = false) (hs : (c.space == 0) = true) (hn : (c.name.toList == [112]) = true ∨ (c.name.toList == [108, 105]) = true) : (c.name.toList == name.toList) = true := by
  unfold impM at h
  rw [namedM_eq] at h
  unfold amongM at h
  rw [imp_has c.name hn, hs] at h
  simpa using h
theorem thor_stop {c : Cal} (h : thorM c = false) (hs : (c.space == 0) = true) : (c.name.toList == [116, 114]) = false ∧ (c.name.toList == [112]) = false := by
  unfold thorM amongM at h
  rw [hs] at h
  simp only [Bool.true_and, Bool.or_eq_false_iff] at h
  refine ⟨?_, ?_⟩
  · cases hq : (c.name.toList == [116, 114]) with
    | false => rfl
    | true => rw [part_has c.name hq] at h; exact absurd h.2 (by decide)
  · cases hq : (c.name.toList == [112]) with
    | false => rfl
    | true => rw [imp_has c.name (.inl hq)] at h; exact absurd h.1 (by decide)

/-- The top of what stays, and what it is called. -/
theorem top_take {S : List Int} {m : Nat} {x : Int} (hx : S[m]? = some x) : topM (S.take (m + 1)) = x := by
  have hlt := (List.getElem?_eq_some_iff.1 hx).1
  unfold topM
  rw [show (((S.take (m + 1)).length : Int) - 1) = (m : Int) by rw [List.length_take]; omega]
  exact atM_in (by rw [List.getElem?_take, if_pos (by omega)]; exact hx)
theorem el_key {ks : List Key} {x : Int} (h : (elOf ks x).isSome = true) : ∃ sp nm, keyAt ks x = some ⟨1, sp, nm⟩ ∧ calOf ks x = ⟨sp, nm⟩ := by
  cases hk : keyAt ks x with
  | none => rw [elOf_none hk] at h; cases h
  | some q =>
    obtain ⟨qk, sp, nm⟩ := q
    have e := elOf_key hk
    by_cases h1 : qk = 1
    · subst h1
      exact ⟨sp, nm, rfl, by unfold calOf; rw [e]; rfl⟩
    · rw [e, if_neg h1] at h; cases h
/-- Behind Implied: nothing stays, or the top is an element that may not go. -/
theorem imp_cases {ks : List Key} {S : List Int} (hg : Good ks S) (name : ByteArray) : (impN ks S name = 0) ∨ ∃ m x sp nm, impN ks S name = m + 1 ∧ m < S.length ∧ topM (S.take (impN ks S name)) = x ∧ keyAt ks x = some ⟨1, sp, nm⟩ ∧ impM ⟨sp, nm⟩ name = false := by
  cases h : impN ks S name with
  | zero => exact .inl rfl
  | succ m =>
    obtain ⟨x, hx, hp⟩ := leaveN_stop (Nat.le_refl _) h
    obtain ⟨sp, nm, hk, hc⟩ := el_key (hg.el x (List.mem_of_getElem? hx))
    exact .inr ⟨m, x, sp, nm, rfl, (List.getElem?_eq_some_iff.1 hx).1, top_take hx, hk, by rw [← hc]; exact hp⟩
theorem thor_cases {ks : List Key} {S : List Int} (hg : Good ks S) : (thorN ks S = 0) ∨ ∃ m x sp nm, thorN ks S = m + 1 ∧ m < S.length ∧ topM (S.take (thorN ks S)) = x ∧ keyAt ks x = some ⟨1, sp, nm⟩ ∧ thorM ⟨sp, nm⟩ = false := by
  cases h : thorN ks S with
  | zero => exact .inl rfl
  | succ m =>
    obtain ⟨x, hx, hp⟩ := leaveN_stop (Nat.le_refl _) h
    obtain ⟨sp, nm, hk, hc⟩ := el_key (hg.el x (List.mem_of_getElem? hx))
    exact .inr ⟨m, x, sp, nm, rfl, (List.getElem?_eq_some_iff.1 hx).1, top_take hx, hk, by rw [← hc]; exact hp⟩
theorem keyAt_neg (ks : List Key) : keyAt ks (-1) = none := rfl

section
variable {w wx : World} {obs : List (Ob w.heap.size)}
theorem env_node_no (h : Env w wx obs) {i bA : Nat} {ks : List Key} (hi : obs[i]? = some (arOb _ bA ks)) {id : Int} (hq : keyAt ks id = none) :
    Calls Try.prog 18 #[.pointer (some ⟨bA, 0, none⟩), .int .i64 id] wx fun e w' => e = .returned (.tuple #[nodeZ, .int .i64 6]) ∧ Env w w' obs := by
  obtain ⟨F, h1, _⟩ := h.ar hi
  exact (node_k_no h1 hq).mono fun _ _ ⟨a, b⟩ => ⟨a, h.more b⟩
end

/-- Twelve cells of a block written. -/
theorem Env.wrote {w wx : World} {obs : List (Ob w.heap.size)} {i K : Nat} {t : TypeId} {a0 a1 a2 a3 a4 a5 a6 a7 a8 a9 a10 a11 : Value} (h : Env w wx obs) (hi : obs[i]? = some (blkOb _ K #[a0, a1, a2, a3, a4, a5, a6, a7, a8, a9, a10, a11] t)) (v0 v1 v2 v3 v4 v5 v6 v7 v8 v9 v10 v11 : Value) :
    Env w ((((((((((((wx.setCell ⟨K, 0, none⟩ v0).setCell ⟨K, 1, none⟩ v1).setCell ⟨K, 2, none⟩ v2).setCell ⟨K, 3, none⟩ v3).setCell ⟨K, 4, none⟩ v4).setCell ⟨K, 5, none⟩ v5).setCell ⟨K, 6, none⟩ v6).setCell ⟨K, 7, none⟩ v7).setCell ⟨K, 8, none⟩ v8).setCell ⟨K, 9, none⟩ v9).setCell ⟨K, 10, none⟩ v10).setCell ⟨K, 11, none⟩ v11) (obs.set i (blkOb _ K #[v0, v1, v2, v3, v4, v5, v6, v7, v8, v9, v10, v11] t)) := by
  obtain ⟨F, ho, _, hk⟩ := h.upd hi
  have hb := ho.2.1
  have h0 := heap_setCell_same _ K 0 _ t v0 hb
  have h1 := heap_setCell_same _ K 1 _ t v1 h0
  have h2 := heap_setCell_same _ K 2 _ t v2 h1
  have h3 := heap_setCell_same _ K 3 _ t v3 h2
  have h4 := heap_setCell_same _ K 4 _ t v4 h3
  have h5 := heap_setCell_same _ K 5 _ t v5 h4
  have h6 := heap_setCell_same _ K 6 _ t v6 h5
  have h7 := heap_setCell_same _ K 7 _ t v7 h6
  have h8 := heap_setCell_same _ K 8 _ t v8 h7
  have h9 := heap_setCell_same _ K 9 _ t v9 h8
  have h10 := heap_setCell_same _ K 10 _ t v10 h9
  have h11 := heap_setCell_same _ K 11 _ t v11 h10
  rw [arr12] at h11
  have st : ∀ (w1 : World) (j : Nat) (v : Value), Mod F wx w1 → Mod F wx (w1.setCell ⟨K, j, none⟩ v) := fun w1 j v h => h.trans (Mod.setCell w1 ⟨K, j, none⟩ v ((ho.2.2 K).2 rfl))
  refine hk _ (blkOb _ K #[v0, v1, v2, v3, v4, v5, v6, v7, v8, v9, v10, v11] t) F ⟨ho.1, h11, ho.2.2⟩ ?_ (fun k hk => .inl hk)
  exact st _ _ _ (st _ _ _ (st _ _ _ (st _ _ _ (st _ _ _ (st _ _ _ (st _ _ _ (st _ _ _ (st _ _ _ (st _ _ _ (st _ _ _ (st _ _ _ (Mod.refl _ _))))))))))))
theorem row12 {w : World} {K : Nat} {t : TypeId} {a0 a1 a2 a3 a4 a5 a6 a7 a8 a9 a10 a11 : Value} (h : w.heap[K]? = some (.cells #[a0, a1, a2, a3, a4, a5, a6, a7, a8, a9, a10, a11] t (0, 0))) :
    (w.cell? ⟨K, 0, none⟩ = some a0 ∧ w.cell? ⟨K, 1, none⟩ = some a1 ∧ w.cell? ⟨K, 2, none⟩ = some a2 ∧ w.cell? ⟨K, 3, none⟩ = some a3 ∧ w.cell? ⟨K, 4, none⟩ = some a4 ∧ w.cell? ⟨K, 5, none⟩ = some a5 ∧ w.cell? ⟨K, 6, none⟩ = some a6 ∧ w.cell? ⟨K, 7, none⟩ = some a7 ∧ w.cell? ⟨K, 8, none⟩ = some a8 ∧ w.cell? ⟨K, 9, none⟩ = some a9 ∧ w.cell? ⟨K, 10, none⟩ = some a10 ∧ w.cell? ⟨K, 11, none⟩ = some a11) ∧ ∀ j, w.frozen? ⟨K, j, none⟩ = false := by
  refine ⟨⟨?_, ?_, ?_, ?_, ?_, ?_, ?_, ?_, ?_, ?_, ?_, ?_⟩, fun j => by simp [World.frozen?, h]⟩ <;> simp [World.cell?, h]
end Go.Proofs.Ytmllhebmaldgfaa
