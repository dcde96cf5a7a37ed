/-
  ActiveArk: never more than three alike behind the last marker: plain.
-/
import Derived.Test.YtdabgeippkmgaaaLu
import Derived.Test.YtdabgeippkmgaaaLy
import Derived.Test.YtdabgeippkmgaaaLz
namespace Go.Proofs.Ytdabgeippkmgaaa
open Go.RowKit

def attX : AttrM := ⟨0, emptyS, nameX, ⟨#[49]⟩⟩
def tokA (nm : ByteArray) (l : List AttrM) : TokM := ⟨1, nm, emptyS, emptyS, 0, false, 0, false, l⟩
def entA (i : Nat) (nm : ByteArray) (l : List AttrM) : EntM := ⟨(i : Int), 0, nm, tokA nm l⟩
def OkA (ks : List Key) (i : Nat) (x : EntM) : Prop := x = mark0 ∨ ∃ j : Nat, 1 ≤ j ∧ j < i ∧ keyAt ks (j : Int) = some ⟨1, 0, x.nm⟩ ∧ x.node = (j : Int) ∧ x.sp = 0 ∧ (x.tok.attrs = [] ∨ x.tok.attrs = [attX])
structure Ark (ks : List Key) (i n : Nat) (es : List EntM) : Prop where
  ok : ∀ x ∈ es, OkA ks i x
  len : es.length ≤ n
  few : ∃ A B, es = A ++ B ∧ (A = [] ∨ ∃ A', A = A' ++ [mark0]) ∧ (∀ y ∈ B, y.node ≠ -1) ∧ ∀ x, B.countP (alikeM x) ≤ 3

theorem OkA.up {ks : List Key} {i k : Nat} {x : EntM} (h : OkA ks i x) (hk : i ≤ k) : OkA ks k x := h.imp id fun ⟨j, h1, h2, h3⟩ => ⟨j, h1, by omega, h3⟩
theorem Ark.start (ks : List Key) : Ark ks 1 0 [] := ⟨fun x hx => by simp at hx, Nat.le_refl _, [], [], rfl, .inl rfl, fun y hy => by simp at hy, fun x => by simp⟩
theorem Ark.up {ks : List Key} {i n k m : Nat} {es : List EntM} (h : Ark ks i n es) (hk : i ≤ k) (hm : n ≤ m) : Ark ks k m es := ⟨fun x hx => (h.ok x hx).up hk, Nat.le_trans h.len hm, h.few⟩
theorem Ark.mark {ks : List Key} {i n : Nat} {es : List EntM} (h : Ark ks i n es) : Ark ks i (n + 1) (es ++ [mark0]) := by
  refine ⟨fun x hx => ?_, ?_, es ++ [mark0], [], by simp, .inr ⟨es, rfl⟩, fun y hy => by simp at hy, fun x => by simp⟩
  · rcases List.mem_append.1 hx with hx | hx
    · exact h.ok x hx
    · exact .inl (by simpa using hx)
  · rw [List.length_append]; have := h.len; simp; omega

theorem scan_base (x : EntM) {A C : List EntM} (hA : A = [] ∨ ∃ A', A = A' ++ [mark0]) (s : Int × Int) : scanE x (A ++ C) A.length s = s := by
  rcases hA with rfl | ⟨A', rfl⟩
  · rfl
  · rw [List.length_append]
    show scanE x _ (A'.length + 1) s = s
    rw [scanE, List.append_assoc, List.getElem?_append_right (Nat.le_refl _)]
    simp [mark0]
/-- The scan over what stands behind the last marker. -/
theorem scan_B (x : EntM) {A : List EntM} (hA : A = [] ∨ ∃ A', A = A' ++ [mark0]) : ∀ (n : Nat) (B C : List EntM), B.length = n → (∀ y ∈ B, y.node ≠ -1) → ∀ s : Int × Int,
    (scanE x (A ++ (B ++ C)) (A.length + B.length) s).2 = s.2 + (B.countP (alikeM x) : Nat) ∧
    (((∀ y ∈ B, alikeM x y = false) ∧ (scanE x (A ++ (B ++ C)) (A.length + B.length) s).1 = s.1) ∨ ∃ B1 y B2, B = B1 ++ y :: B2 ∧ alikeM x y = true ∧ (scanE x (A ++ (B ++ C)) (A.length + B.length) s).1 = ((A.length + B1.length : Nat) : Int))
  | 0, B, C, hn, _, s => by
    obtain rfl := List.eq_nil_of_length_eq_zero hn
    simp only [List.nil_append, List.length_nil, Nat.add_zero, List.countP_nil]
    rw [scan_base x hA]
    exact ⟨by simp, .inl ⟨fun y hy => by simp at hy, rfl⟩⟩
  | n + 1, B, C, hn, hB, s => by
    obtain ⟨B', z, rfl⟩ : ∃ B' z, B = B' ++ [z] := by
      rcases List.eq_nil_or_concat B with e | ⟨B', z, e⟩
      · subst e; simp at hn
      · exact ⟨B', z, by simpa using e⟩
    have hl : B'.length = n := by simpa using hn
    have hz : z.node ≠ -1 := hB z (by simp)
    have hg : (A ++ ((B' ++ [z]) ++ C))[A.length + B'.length]? = some z := by
      rw [List.getElem?_append_right (by omega), List.append_assoc, List.getElem?_append_right (by omega)]
      simp
    have hs : scanE x (A ++ ((B' ++ [z]) ++ C)) (A.length + (B' ++ [z]).length) s = scanE x (A ++ (B' ++ (z :: C))) (A.length + B'.length) (if alikeM x z = true then (((A.length + B'.length : Nat) : Int), s.2 + 1) else s) := by
      have e1 : A.length + (B' ++ [z]).length = A.length + B'.length + 1 := by simp; omega
      have e2 : (B' ++ [z]) ++ C = B' ++ (z :: C) := by simp
      rw [e1, scanE, hg]
      simp only
      rw [if_neg hz, e2]
    have ih := scan_B x hA n B' (z :: C) hl (fun y hy => hB y (by simp [hy])) (if alikeM x z = true then (((A.length + B'.length : Nat) : Int), s.2 + 1) else s)
    rw [hs]
    by_cases hzx : alikeM x z = true
    · simp only [hzx, if_true] at ih ⊢
      refine ⟨by rw [ih.1, List.countP_append]; simp [hzx]; omega, .inr ?_⟩
      rcases ih.2 with ⟨h1, h2⟩ | ⟨B1, y, B2, h1, h2, h3⟩
      · exact ⟨B', z, [], rfl, hzx, h2⟩
      · exact ⟨B1, y, B2 ++ [z], by rw [h1]; simp, h2, h3⟩
    · simp only [hzx, if_false, Bool.false_eq_true] at ih ⊢
      have hzf : alikeM x z = false := by simpa using hzx
      refine ⟨by rw [ih.1, List.countP_append]; simp [hzf], ?_⟩
      rcases ih.2 with ⟨h1, h2⟩ | ⟨B1, y, B2, h1, h2, h3⟩
      · refine .inl ⟨fun y hy => ?_, h2⟩
        rcases List.mem_append.1 hy with hy | hy
        · exact h1 y hy
        · simp at hy; subst hy; exact hzf
      · exact .inr ⟨B1, y, B2 ++ [z], by rw [h1]; simp, h2, h3⟩

theorem alikeM_iff {x y : EntM} : alikeM x y = true ↔ x.sp = y.sp ∧ x.nm = y.nm ∧ setL x.tok.attrs = setL y.tok.attrs := by
  simp [alikeM, kinB, eqL_iff, and_assoc]
theorem alike_same {x y : EntM} (h : alikeM x y = true) : alikeM x = alikeM y := by
  funext z
  rw [Bool.eq_iff_iff, alikeM_iff, alikeM_iff]
  obtain ⟨h1, h2, h3⟩ := alikeM_iff.1 h
  rw [h1, h2, h3]
theorem alike_refl (x : EntM) : alikeM x x = true := alikeM_iff.2 ⟨rfl, rfl, rfl⟩

/-- What a push leaves: still three of a kind at most. -/
theorem few_push (x : EntM) (hx : x.node ≠ -1) {es : List EntM} (h : ∃ A B, es = A ++ B ∧ (A = [] ∨ ∃ A', A = A' ++ [mark0]) ∧ (∀ y ∈ B, y.node ≠ -1) ∧ ∀ x, B.countP (alikeM x) ≤ 3) :
    (∀ y ∈ delE es (surE x es), y ∈ es) ∧ ∃ A B, delE es (surE x es) ++ [x] = A ++ B ∧ (A = [] ∨ ∃ A', A = A' ++ [mark0]) ∧ (∀ y ∈ B, y.node ≠ -1) ∧ ∀ x, B.countP (alikeM x) ≤ 3 := by
  obtain ⟨A, B, rfl, hA, hB, hc⟩ := h
  obtain ⟨h1, h2⟩ := scan_B x hA B.length B [] rfl hB (-1, 0)
  rw [List.append_nil] at h1 h2
  have hlen : (A ++ B).length = A.length + B.length := List.length_append
  by_cases h3 : (B.countP (alikeM x) : Int) < 3
  · have e : surE x (A ++ B) = -1 := by
      unfold surE
      rw [hlen, h1, if_pos (by simpa using h3)]
    rw [e]
    refine ⟨fun y hy => hy, A, B ++ [x], by simp [delE], hA, fun y hy => ?_, fun z => ?_⟩
    · rcases List.mem_append.1 hy with hy | hy
      · exact hB y hy
      · simp at hy; subst hy; exact hx
    · rw [List.countP_append]
      by_cases hz : alikeM z x = true
      · rw [alike_same hz]
        simp [alike_refl]
        omega
      · have := hc z
        simp [hz]
        exact this
  · have hs : surE x (A ++ B) = (scanE x (A ++ B) (A.length + B.length) (-1, 0)).1 := by
      unfold surE
      rw [hlen, h1, if_neg (by simpa using h3)]
    rcases h2 with ⟨h4, _⟩ | ⟨B1, y, B2, rfl, hy, h5⟩
    · have : B.countP (alikeM x) = 0 := by
        rw [List.countP_eq_zero]
        intro y hy
        simp [h4 y hy]
      rw [this] at h3
      simp at h3
    · have hd : delE (A ++ (B1 ++ y :: B2)) (surE x (A ++ (B1 ++ y :: B2))) = A ++ (B1 ++ B2) := by
        rw [hs, h5, delE, if_pos (by omega), Int.toNat_natCast]
        have e1 : (A ++ (B1 ++ y :: B2)).take (A.length + B1.length) = A ++ B1 := by
          rw [← List.append_assoc, List.take_append_of_le_length (by simp), List.take_of_length_le (by simp)]
        have e2 : (A ++ (B1 ++ y :: B2)).drop (A.length + B1.length + 1) = B2 := by
          have : A ++ (B1 ++ y :: B2) = (A ++ B1 ++ [y]) ++ B2 := by simp
          rw [this, List.drop_append_of_le_length (by simp; omega), List.drop_eq_nil_of_le (by simp; omega), List.nil_append]
        rw [e1, e2]
        simp
      rw [hd]
      refine ⟨fun z hz => ?_, A, (B1 ++ B2) ++ [x], by simp, hA, fun z hz => ?_, fun z => ?_⟩
      · simp only [List.mem_append, List.mem_cons] at hz ⊢
        exact hz.elim .inl (fun h => .inr (h.elim .inl (fun h => .inr (.inr h))))
      · simp only [List.mem_append, List.mem_singleton] at hz
        rcases hz with (hz | hz) | hz
        · exact hB z (by simp [hz])
        · exact hB z (by simp [hz])
        · subst hz; exact hx
      · have := hc z
        simp only [List.countP_append, List.countP_cons, List.countP_nil] at this ⊢
        by_cases hz : alikeM z x = true
        · have : alikeM z y = true := by rw [alike_same hz]; exact hy
          simp_all
          omega
        · simp only [hz, Bool.false_eq_true, if_false]
          omega

theorem alike_law {ks : List Key} {i k : Nat} {nm : ByteArray} {l : List AttrM} (hl : l = [] ∨ l = [attX]) {y : EntM} (hy : OkA ks i y) (hn : y.node ≠ -1) : alikeM (entA k nm l) y = (decide (y.nm = nm) && decide (y.tok.attrs.length = l.length)) := by
  rcases hy with rfl | ⟨j, _, _, _, _, h3, h4⟩
  · exact absurd rfl hn
  · rw [Bool.eq_iff_iff, alikeM_iff]
    simp only [Bool.and_eq_true, decide_eq_true_eq]
    show (0 = y.sp ∧ nm = y.nm ∧ setL l = setL y.tok.attrs) ↔ _
    have hset : setL l = setL y.tok.attrs ↔ y.tok.attrs.length = l.length := by
      rcases hl with rfl | rfl <;> rcases h4 with h4 | h4 <;> rw [h4]
      · simp
      · rw [setL_eq]; simp
      · rw [setL_eq]; simp
      · simp
    rw [hset, h3]
    exact ⟨fun ⟨_, a, b⟩ => ⟨a.symm, b⟩, fun ⟨a, b⟩ => ⟨rfl, a.symm, b⟩⟩

/-- One more entry. -/
theorem ark_push {ks : List Key} {i n : Nat} {es : List EntM} (h : Ark ks i n es) (hi : 1 ≤ i) {nm : ByteArray} (hk : keyAt ks (i : Int) = some ⟨1, 0, nm⟩) {l : List AttrM} (hl : l = [] ∨ l = [attX]) :
    enterE ks es (i : Int) = 0 ∧ ∃ C, pushE ks es (i : Int) (tokA nm l) = C ++ [entA i nm l] ∧ Ark ks (i + 1) (n + 1) (C ++ [entA i nm l]) ∧ placeE (C ++ [entA i nm l]) (i : Int) = (C.length : Int) ∧ lastE nm (C ++ [entA i nm l]) (C.length + 1) = (i : Int) ∧ (scanE (entA i nm l) (C ++ [entA i nm l]) (C.length + 1) (0, 0)).2 ≤ 3 := by
  have hel : elK ks (i : Int) = some ⟨0, nm⟩ := (elK_key hk).trans rfl
  have hnode : ∀ x ∈ es, x.node ≠ (i : Int) := fun x hx => by
    rcases h.ok x hx with rfl | ⟨j, _, h2, _, h4, _⟩
    · show (-1 : Int) ≠ _
      omega
    · rw [h4]; omega
  have e1 : placeE es (i : Int) = -1 := placeE_none hnode
  have e2 : enterE ks es (i : Int) = 0 := by
    rw [enterE, hel, if_pos (show (some (⟨0, nm⟩ : KinM)).isSome = true from rfl), e1, if_neg (by omega)]
  have e3 : newE ks es (i : Int) (tokA nm l) = entA i nm l := by
    rw [newE, enterK, if_pos e2, hel]
    rfl
  have hxn : (entA i nm l).node ≠ -1 := by show (i : Int) ≠ -1; omega
  obtain ⟨hsub, A, B, hAB, hA, hB, hc⟩ := few_push (entA i nm l) hxn h.few
  refine ⟨e2, delE es (surE (entA i nm l) es), by rw [pushE, if_pos e2, e3], ⟨fun x hx => ?_, ?_, A, B, hAB, hA, hB, hc⟩, ?_, ?_, ?_⟩
  · rcases List.mem_append.1 hx with hx | hx
    · exact (h.ok x (hsub x hx)).up (by omega)
    · simp at hx
      subst hx
      exact .inr ⟨i, hi, by omega, hk, rfl, rfl, hl⟩
  · rw [List.length_append]
    have := delE_len es (surE (entA i nm l) es)
    have := h.len
    simp
    omega
  · generalize delE es (surE (entA i nm l) es) = C at *
    unfold placeE
    rw [List.length_append]
    show findP _ (pairsN _ (C.length + 1)) = _
    rw [pairsN, List.getElem?_append_right (Nat.le_refl _)]
    simp only [Nat.sub_self, List.getElem?_cons_zero]
    rw [if_neg hxn, findP_behind]
    · simp [findP, entA]
    · have hp : ∀ k, k ≤ C.length → ∀ y ∈ pairsN (C ++ [entA i nm l]) k, ∃ x ∈ C, y.2 = x.node := by
        intro k
        induction k with
        | zero => intro _ y hy; simp [pairsN] at hy
        | succ k ih =>
          intro hk2 y hy
          rw [pairsN, List.getElem?_append_left (by omega), List.getElem?_eq_getElem (by omega)] at hy
          rcases List.mem_append.1 hy with hy | hy
          · exact ih (by omega) y hy
          · simp only at hy
            split at hy
            · simp at hy
            · simp at hy
              exact ⟨C[k]'(by omega), List.getElem_mem _, by rw [hy]⟩
      intro y hy
      obtain ⟨x, hx, e⟩ := hp _ (Nat.le_refl _) y hy
      rw [e]
      exact hnode x (hsub x hx)
  · generalize delE es (surE (entA i nm l) es) = C at *
    rw [lastE, List.getElem?_append_right (Nat.le_refl _)]
    simp only [Nat.sub_self, List.getElem?_cons_zero]
    rw [if_neg hxn, if_pos (by show kinB 0 0 nm nm = true; simp [kinB])]
    rfl
  · have hlen : (delE es (surE (entA i nm l) es)).length + 1 = A.length + B.length := by
      have := congrArg List.length hAB
      simpa using this
    rw [hlen, hAB]
    have := (scan_B (entA i nm l) hA B.length B [] rfl hB (0, 0)).1
    rw [List.append_nil] at this
    rw [this]
    have := hc (entA i nm l)
    simp
    omega
theorem ark_at {ks : List Key} {i n : Nat} {es : List EntM} (h : Ark ks i n es) {k : Nat} {y : EntM} (hy : es[k]? = some y) : OkA ks i y := h.ok y (List.mem_of_getElem? hy)
end Go.Proofs.Ytdabgeippkmgaaa
