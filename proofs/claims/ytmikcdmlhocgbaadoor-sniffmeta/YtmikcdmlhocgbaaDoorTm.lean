/-
  What stands ahead changes nothing: a list behind another.
-/
import Derived.Test.YtmikcdmlhocgbaaDoorTg
namespace Go.Proofs.YtmikcdmlhocgbaaDoor
open Go.RowKit Go.Lib

section
variable {pre suf : List UInt8} {k : Nat}
theorem sh_drop : (pre ++ suf).drop (pre.length + k) = suf.drop k := by rw [List.drop_append, List.drop_eq_nil_of_le (by omega), List.nil_append, show pre.length + k - pre.length = k by omega]
theorem sh_get : (pre ++ suf)[pre.length + k]? = suf[k]? := by rw [List.getElem?_append_right (by omega), show pre.length + k - pre.length = k by omega]
theorem sh_len : (pre ++ suf).length = pre.length + suf.length := List.length_append
theorem sh_sees (x : List UInt8) : seesM (pre ++ suf) (pre.length + k) x = seesM suf k x := by unfold seesM; rw [sh_drop]
theorem sh_among (cs : List UInt8) : amongM (pre ++ suf) (pre.length + k) cs = amongM suf k cs := by unfold amongM; rw [sh_get]
theorem sh_letter : letterM (pre ++ suf) (pre.length + k) = letterM suf k := by unfold letterM; rw [sh_get]
theorem sh_pass (p : UInt8 → Bool) : passP p (pre ++ suf) (pre.length + k) = pre.length + passP p suf k := by unfold passP; rw [sh_drop]; omega
theorem sh_findF (x : List UInt8) : ∀ (n k : Nat), findF x (pre ++ suf) n (pre.length + k) = pre.length + findF x suf n k
  | 0, k => by unfold findF; omega
  | n + 1, k => by
    unfold findF
    rw [sh_sees]
    have := sh_findF x n (k + 1)
    rw [show pre.length + (k + 1) = pre.length + k + 1 by omega] at this
    split
    · rfl
    · exact this
theorem sh_find (x : List UInt8) : findM x (pre ++ suf) (pre.length + k) = pre.length + findM x suf k := by
  unfold findM
  rw [show (pre ++ suf).length - (pre.length + k) = suf.length - k by rw [sh_len]; omega]
  exact sh_findF x _ _
theorem sh_cut {e : Nat} : ((pre ++ suf).take (pre.length + e)).drop (pre.length + k) = (suf.take e).drop k := by
  rw [List.take_append, show pre.length + e - pre.length = e by omega, List.take_of_length_le (by omega)]
  exact sh_drop
theorem sh_nameS : nameS (pre ++ suf) (pre.length + k) = pre.length + nameS suf k := by
  unfold nameS
  rw [sh_sees]
  split <;> omega
theorem sh_nameE : nameE (pre ++ suf) (pre.length + k) = pre.length + nameE suf k := by
  unfold nameE
  rw [sh_nameS, sh_pass]
theorem sh_nameM : nameM (pre ++ suf) (pre.length + k) = nameM suf k := by
  unfold nameM
  rw [sh_nameE, sh_cut]
theorem sh_quoted : (quotedM (pre ++ suf) (pre.length + k)).1 = (quotedM suf k).1 ∧ (quotedM (pre ++ suf) (pre.length + k)).2 = pre.length + (quotedM suf k).2 := by
  unfold quotedM
  rw [sh_get]
  cases suf[k]? with
  | none => exact ⟨rfl, rfl⟩
  | some c =>
    simp only
    have h : findM [c] (pre ++ suf) (pre.length + k + 1) = pre.length + findM [c] suf (k + 1) := sh_find (k := k + 1) [c]
    rw [h, sh_len]
    by_cases hf : findM [c] suf (k + 1) < suf.length
    · rw [if_pos (by omega), if_pos hf]
      have hc : ((pre ++ suf).take (pre.length + findM [c] suf (k + 1))).drop (pre.length + k + 1) = (suf.take (findM [c] suf (k + 1))).drop (k + 1) := sh_cut (k := k + 1)
      exact ⟨by simp only [hc], by simp only; omega⟩
    · rw [if_neg (by omega), if_neg hf]
      exact ⟨rfl, rfl⟩
theorem sh_valueV : valueV (pre ++ suf) (pre.length + k) = valueV suf k := by
  unfold valueV
  rw [sh_among, sh_quoted.1, sh_pass, sh_cut]
theorem sh_valueO : valueO (pre ++ suf) (pre.length + k) = valueO suf k := by
  unfold valueO
  rw [sh_among, sh_quoted.1, sh_pass, sh_len]
  congr 1
  apply decide_eq_decide.2
  omega
theorem sh_valueE : valueE (pre ++ suf) (pre.length + k) = pre.length + valueE suf k := by
  unfold valueE
  rw [sh_among, sh_quoted.2, sh_pass]
  split <;> rfl
theorem sh_attr3 : attr3 (pre ++ suf) (pre.length + k) = pre.length + attr3 suf k := by
  unfold attr3
  rw [sh_nameE, sh_pass]
theorem sh_attr4 : attr4 (pre ++ suf) (pre.length + k) = pre.length + attr4 suf k := by
  unfold attr4
  rw [sh_attr3]
  exact sh_pass (k := attr3 suf k + 1) blankP
theorem sh_attrA : attrA (pre ++ suf) (pre.length + k) = ((attrA suf k).1, pre.length + (attrA suf k).2) := by
  unfold attrA
  rw [sh_sees, sh_nameE, sh_attr3, sh_sees, sh_attr4, sh_valueO, sh_nameM, sh_valueV, sh_valueE, sh_len]
  by_cases h : suf.length ≤ nameE suf k
  · rw [if_pos (show pre.length + suf.length ≤ pre.length + nameE suf k by omega), if_pos h]
    split <;> rfl
  · rw [if_neg (show ¬ pre.length + suf.length ≤ pre.length + nameE suf k by omega), if_neg h]
    split
    · rfl
    · split
      · split <;> rfl
      · rfl
theorem sh_attrM : attrM (pre ++ suf) (pre.length + k) = ((attrM suf k).1, pre.length + (attrM suf k).2) := by
  unfold attrM
  rw [sh_pass, sh_attrA]
theorem sh_attrsF : ∀ (n k : Nat), attrsF (pre ++ suf) n (pre.length + k) = ((attrsF suf n k).1, pre.length + (attrsF suf n k).2)
  | 0, k => rfl
  | n + 1, k => by
    unfold attrsF
    rw [sh_attrM]
    simp only
    cases (attrM suf k).1 with
    | none => rfl
    | some x =>
      simp only
      rw [sh_attrsF n]
theorem sh_attrs : attrsM (pre ++ suf) (pre.length + k) = ((attrsM suf k).1, pre.length + (attrsM suf k).2) := by
  unfold attrsM
  rw [show (pre ++ suf).length + 1 - (pre.length + k) = suf.length + 1 - k by rw [sh_len]; omega]
  exact sh_attrsF _ _
theorem sh_step (hm : isMeta suf 0 = true) (hc : seesM suf 0 comL = false) : (stepM (pre ++ suf) pre.length).1 = (stepM suf 0).1 := by
  have e0 : seesM (pre ++ suf) pre.length comL = seesM suf 0 comL := sh_sees (k := 0) comL
  have e1 : isMeta (pre ++ suf) pre.length = isMeta suf 0 := by
    unfold isMeta
    rw [show seesM (pre ++ suf) pre.length metaL = seesM suf 0 metaL from sh_sees (k := 0) metaL, show amongM (pre ++ suf) (pre.length + 5) gapL = amongM suf (0 + 5) gapL from sh_among (k := 5) gapL]
  unfold stepM
  rw [e0, e1, hc, hm, sh_attrs (k := 5)]
  rfl
theorem skip_plain (h : ∀ c ∈ pre, c ≠ 60) : ∀ (n j : Nat), j ≤ pre.length → prescanF (pre ++ suf) (n + j) (pre.length - j) = prescanF (pre ++ suf) n pre.length
  | n, 0, _ => by simp
  | n, j + 1, hj => by
    have hk : pre.length - (j + 1) < (pre ++ suf).length := by rw [sh_len]; omega
    have hne : (pre ++ suf)[pre.length - (j + 1)]'hk ≠ 60 := by
      rw [List.getElem_append_left (by omega)]
      exact h _ (List.getElem_mem _)
    rw [show n + (j + 1) = (n + j) + 1 by omega, prescanF, if_pos hk, step_plain hk hne]
    simp only [Bool.false_eq_true, if_false]
    rw [show pre.length - (j + 1) + 1 = pre.length - j by omega]
    exact skip_plain h n j (by omega)
theorem prescan_meta {v : Int} (h : ∀ c ∈ pre, c ≠ 60) (hp : pre.length ≤ 500) (hs : suf.length ≤ 500) (h0 : 0 < suf.length) (hm : isMeta suf 0 = true) (hc : seesM suf 0 comL = false) (hst : (stepM suf 0).1 = (v, true)) : prescanM (pre ++ suf) = (v, 0) := by
  unfold prescanM
  rw [List.take_of_length_le (by rw [sh_len]; omega)]
  have h1 := skip_plain (suf := suf) h (1025 - pre.length) pre.length (Nat.le_refl _)
  rw [Nat.sub_self, show 1025 - pre.length + pre.length = 1025 by omega] at h1
  rw [h1, show 1025 - pre.length = (1024 - pre.length) + 1 by omega, prescanF_yes (by rw [sh_len]; omega) (by rw [sh_step hm hc, hst]), sh_step hm hc, hst]
end
end Go.Proofs.YtmikcdmlhocgbaaDoor
