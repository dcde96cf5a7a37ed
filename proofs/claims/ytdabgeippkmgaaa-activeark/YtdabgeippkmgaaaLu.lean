/-
  ActiveClears: what stands in the list behind some pushes, a marker, and Clear: plain. An arena and a list in memory, neither part of the other.
-/
import Derived.Test.YtdabgeippkmgaaaLt
namespace Go.Proofs.Ytdabgeippkmgaaa
open Go.RowKit

def nameB : ByteArray := ⟨#[98]⟩
def nameX : ByteArray := ⟨#[120]⟩
def byteS (i : Nat) : ByteArray := ⟨#[UInt8.ofNat i]⟩
def attC (i : Nat) : AttrM := ⟨0, emptyS, nameX, byteS i⟩
def tokC (i : Nat) : TokM := ⟨0, emptyS, emptyS, emptyS, 0, false, 0, false, [attC i]⟩
def entC (i : Nat) : EntM := ⟨((i + 1 : Nat) : Int), 0, nameB, tokC i⟩
def esC (n : Nat) (mark : Bool) : Nat → List EntM
  | 0 => []
  | i + 1 => (if i = n ∧ mark = true then esC n mark i ++ [mark0] else esC n mark i) ++ [entC i]
def ksC : Nat → List Key
  | 0 => [⟨0, 0, emptyS⟩]
  | i + 1 => ksC i ++ [⟨1, 0, nameB⟩]
theorem ksC_len : ∀ i, (ksC i).length = i + 1
  | 0 => rfl
  | i + 1 => by rw [ksC, List.length_append, ksC_len i]; rfl
theorem elemC {i : Nat} (hi : i < 40) : elemK (ksC i) 0 nameB = (ksC (i + 1), ((i + 1 : Nat) : Int), 0) := by
  have h1 : longS nameB = false := by decide +kernel
  have h2 : isT nameB = false := by decide +kernel
  unfold elemK addK
  rw [if_neg (by omega), h1, h2, ksC_len]
  simp only [Bool.false_eq_true, if_false, and_false]
  rw [if_pos (by omega)]
  rfl
theorem elK_C (i : Nat) : elK (ksC (i + 1)) ((i + 1 : Nat) : Int) = some ⟨0, nameB⟩ := by
  refine (elK_key (q := ⟨1, 0, nameB⟩) ?_).trans rfl
  unfold keyAt
  rw [if_pos (by omega), Int.toNat_natCast, ksC, List.getElem?_append_right (by rw [ksC_len]; exact Nat.le_refl _), ksC_len]
  simp
theorem esC_mem {n : Nat} {mark : Bool} {x : EntM} : ∀ {i : Nat}, x ∈ esC n mark i → x = mark0 ∨ ∃ j, j < i ∧ x = entC j
  | 0, h => by simp [esC] at h
  | i + 1, h => by
    rw [esC] at h
    rcases List.mem_append.1 h with h | h
    · have : x = mark0 ∨ x ∈ esC n mark i := by
        split at h
        · rcases List.mem_append.1 h with h | h
          · exact .inr h
          · exact .inl (by simpa using h)
        · exact .inr h
      rcases this with h | h
      · exact .inl h
      · rcases esC_mem h with h | ⟨j, h1, h2⟩
        · exact .inl h
        · exact .inr ⟨j, by omega, h2⟩
    · exact .inr ⟨i, by omega, by simpa using h⟩
theorem pairsN_mem {es : List EntM} {y : Nat × Int} : ∀ {n : Nat}, y ∈ pairsN es n → ∃ x ∈ es, y.2 = x.node
  | 0, h => by simp [pairsN] at h
  | n + 1, h => by
    rw [pairsN] at h
    rcases List.mem_append.1 h with h | h
    · exact pairsN_mem h
    · split at h
      · rename_i x hx
        split at h
        · simp at h
        · simp at h
          exact ⟨x, List.mem_of_getElem? hx, by rw [h]⟩
      · simp at h
theorem placeE_none {es : List EntM} {id : Int} (h : ∀ x ∈ es, x.node ≠ id) : placeE es id = -1 :=
  findP_none (fun y hy => by
    obtain ⟨x, hx, e⟩ := pairsN_mem hy
    rw [e]
    exact h x hx)
theorem scanE_none {x : EntM} {es : List EntM} (h : ∀ y ∈ es, alikeM x y = false) : ∀ (n : Nat) (s : Int × Int), scanE x es n s = s
  | 0, s => rfl
  | n + 1, s => by
    rw [scanE]
    split
    · rename_i y hy
      split
      · rfl
      · rw [if_neg (by rw [h y (List.mem_of_getElem? hy)]; simp)]
        exact scanE_none h n s
    · rfl
theorem byteS_inj {i j : Nat} (hi : i < 256) (hj : j < 256) (h : byteS i = byteS j) : i = j := by
  unfold byteS at h
  simp only [ByteArray.mk.injEq, Array.mk.injEq, List.cons.injEq, and_true] at h
  have := congrArg UInt8.toNat h
  simp only [UInt8.toNat_ofNat'] at this
  omega
theorem alikeC {i j : Nat} (hi : i < 256) (hj : j < 256) (h : j ≠ i) : alikeM (entC i) (entC j) = false := by
  cases e : alikeM (entC i) (entC j) with
  | false => rfl
  | true =>
    unfold alikeM at e
    rw [Bool.and_eq_true] at e
    have h1 := setL_eq.1 (eqL_iff.1 e.2) (attC i)
    have h2 : attC i ∈ [attC j] := h1.1 (by simp [entC, tokC])
    simp only [List.mem_singleton] at h2
    have h3 : byteS i = byteS j := congrArg AttrM.val h2
    exact absurd (byteS_inj hi hj h3).symm h
theorem alikeM0 (i : Nat) : alikeM (entC i) mark0 = false := by
  have : kinB (entC i).sp mark0.sp (entC i).nm mark0.nm = false := by
    show kinB 0 0 nameB ⟨#[]⟩ = false
    decide +kernel
  rw [alikeM, this, Bool.false_and]
/-- One more entry, of a number that none has, unlike all. -/
theorem push_new {i : Nat} (hi : i < 40) {es : List EntM} (h : ∀ x ∈ es, x = mark0 ∨ ∃ j, j < i ∧ x = entC j) :
    enterE (ksC (i + 1)) es ((i + 1 : Nat) : Int) = 0 ∧ pushE (ksC (i + 1)) es ((i + 1 : Nat) : Int) (tokC i) = es ++ [entC i] := by
  have e1 : placeE es ((i + 1 : Nat) : Int) = -1 := placeE_none (fun x hx => by
    rcases h x hx with rfl | ⟨j, hj, rfl⟩
    · show (-1 : Int) ≠ _
      omega
    · show ((j + 1 : Nat) : Int) ≠ _
      omega)
  have e2 : enterE (ksC (i + 1)) es ((i + 1 : Nat) : Int) = 0 := by
    rw [enterE, elK_C, if_pos (show (some (⟨0, nameB⟩ : KinM)).isSome = true from rfl), e1, if_neg (by omega)]
  have e3 : newE (ksC (i + 1)) es ((i + 1 : Nat) : Int) (tokC i) = entC i := by
    rw [newE, enterK, if_pos e2, elK_C]
    rfl
  have e4 : surE (entC i) es = -1 := by
    rw [surE, scanE_none (fun y hy => ?_)]
    · rfl
    · rcases h y hy with rfl | ⟨j, hj, rfl⟩
      · exact alikeM0 i
      · exact alikeC (by omega) (by omega) (by omega)
  refine ⟨e2, ?_⟩
  rw [pushE, if_pos e2, e3, e4]
  rfl
theorem midC_mem {n i : Nat} {mark : Bool} {x : EntM} (h : x ∈ (if i = n ∧ mark = true then esC n mark i ++ [mark0] else esC n mark i)) : x = mark0 ∨ ∃ j, j < i ∧ x = entC j := by
  split at h
  · rcases List.mem_append.1 h with h | h
    · exact esC_mem h
    · exact .inl (by simpa using h)
  · exact esC_mem h
theorem esC_len (n : Nat) (mark : Bool) : ∀ i, (esC n mark i).length ≤ 2 * i
  | 0 => by simp [esC]
  | i + 1 => by
    have := esC_len n mark i
    rw [esC, List.length_append]
    split
    · rw [List.length_append]; simp; omega
    · simp; omega

def rowC (s k : Nat) : List EntM := (List.range' s k).map entC
theorem rowC_succ (s k : Nat) : rowC s (k + 1) = rowC s k ++ [entC (s + k)] := by
  unfold rowC
  rw [List.range'_concat, List.map_append]
  simp
theorem esC_low {n : Nat} {mark : Bool} : ∀ {i : Nat}, (i ≤ n ∨ mark = false) → esC n mark i = rowC 0 i
  | 0, _ => rfl
  | i + 1, h => by
    rw [esC, rowC_succ, if_neg (by rintro ⟨h1, h2⟩; rcases h with h | h; · omega
                                   · rw [h] at h2; cases h2), esC_low (h.imp (by omega) id), Nat.zero_add]
theorem esC_high (n : Nat) : ∀ k, esC n true (n + (k + 1)) = rowC 0 n ++ mark0 :: rowC n (k + 1)
  | 0 => by
    show (if n = n ∧ true = true then esC n true n ++ [mark0] else esC n true n) ++ [entC n] = _
    rw [if_pos ⟨rfl, rfl⟩, esC_low (.inl (Nat.le_refl _))]
    simp [rowC]
  | k + 1 => by
    show (if n + (k + 1) = n ∧ true = true then _ else esC n true (n + (k + 1))) ++ [entC (n + (k + 1))] = _
    rw [if_neg (by omega), esC_high n k, rowC_succ n (k + 1)]
    simp
def endC (n m : Nat) (mark : Bool) : List EntM := if m = 0 ∧ mark = true then esC n mark (n + m) ++ [mark0] else esC n mark (n + m)
theorem endC_yes (n m : Nat) : endC n m true = rowC 0 n ++ mark0 :: rowC n m := by
  unfold endC
  cases m with
  | zero => rw [if_pos ⟨rfl, rfl⟩]; show esC n true n ++ [mark0] = _; rw [esC_low (.inl (Nat.le_refl _))]; rfl
  | succ k => rw [if_neg (by omega), esC_high]
theorem endC_no (n m : Nat) : endC n m false = rowC 0 (n + m) := by
  unfold endC
  rw [if_neg (by simp), esC_low (.inr rfl)]
theorem rowC_len (s k : Nat) : (rowC s k).length = k := by simp [rowC]
theorem rowC_node {s k : Nat} {x : EntM} (h : x ∈ rowC s k) : x.node ≠ -1 := by
  unfold rowC at h
  obtain ⟨j, _, rfl⟩ := List.mem_map.1 h
  show ((j + 1 : Nat) : Int) ≠ -1
  omega
theorem lastM_none {es : List EntM} (h : ∀ x ∈ es, x.node ≠ -1) : ∀ n, lastM es n = -1
  | 0 => rfl
  | n + 1 => by
    rw [lastM]
    split
    · rename_i x hx
      rw [if_neg (h x (List.mem_of_getElem? hx))]
      exact lastM_none h n
    · rfl
theorem lastM_mid {A B : List EntM} (h : ∀ x ∈ B, x.node ≠ -1) : ∀ k, k ≤ B.length → lastM (A ++ mark0 :: B) (A.length + 1 + k) = (A.length : Int)
  | 0, _ => by
    show lastM _ (A.length + 1) = _
    rw [lastM, List.getElem?_append_right (Nat.le_refl _)]
    simp [mark0]
  | k + 1, hk => by
    show lastM _ (A.length + 1 + k + 1) = _
    have e : (A ++ mark0 :: B)[A.length + 1 + k]? = some (B[k]'(by omega)) := by
      rw [List.getElem?_append_right (by omega), show A.length + 1 + k - A.length = k + 1 by omega, List.getElem?_cons_succ, List.getElem?_eq_getElem (by omega)]
    rw [lastM, e]
    simp only
    rw [if_neg (h _ (List.getElem_mem _))]
    exact lastM_mid h k (by omega)
theorem findP_behind {id : Int} : ∀ {l r : List (Nat × Int)}, (∀ y ∈ l, y.2 ≠ id) → findP id (l ++ r) = findP id r
  | [], r, _ => rfl
  | (i, x) :: l, r, h => by
    show (if x = id then (i : Int) else findP id (l ++ r)) = _
    rw [if_neg (h (i, x) (by simp)), findP_behind (fun y hy => h y (by simp [hy]))]
theorem clear_no (n m : Nat) : leftN (endC n m false) = 0 ∧ (endC n m false).length = n + m ∧ (endC n m false).take 0 = [] := by
  rw [endC_no]
  refine ⟨by rw [leftN, lastM_none (fun x hx => rowC_node hx)]; rfl, rowC_len _ _, rfl⟩
theorem clear_yes (n m : Nat) : leftN (endC n m true) = n ∧ (endC n m true).length = n + m + 1 ∧ (endC n m true).take n = rowC 0 n := by
  rw [endC_yes]
  have hl : (rowC 0 n ++ mark0 :: rowC n m).length = n + 1 + m := by rw [List.length_append, List.length_cons, rowC_len, rowC_len]; omega
  refine ⟨?_, by omega, ?_⟩
  · have h := lastM_mid (A := rowC 0 n) (B := rowC n m) (fun x hx => rowC_node hx) m (by rw [rowC_len]; exact Nat.le_refl _)
    rw [rowC_len] at h
    rw [leftN, hl, h]
    rfl
  · rw [List.take_append_of_le_length (by rw [rowC_len]; exact Nat.le_refl _), List.take_of_length_le (by rw [rowC_len]; exact Nat.le_refl _)]
theorem find_C (n : Nat) : placeE (rowC 0 (n + 1)) ((n + 1 : Nat) : Int) = (n : Int) := by
  unfold placeE
  rw [rowC_len, pairsN]
  have e : (rowC 0 (n + 1))[n]? = some (entC n) := by
    rw [rowC_succ, List.getElem?_append_right (by rw [rowC_len]; exact Nat.le_refl _), rowC_len]; simp
  rw [e]
  simp only
  rw [if_neg (by show ((n + 1 : Nat) : Int) ≠ -1; omega), findP_behind]
  · simp [findP, entC]
  · have : ∀ k, k ≤ n → ∀ y ∈ pairsN (rowC 0 (n + 1)) k, y.2 ≤ (k : Int) := by
      intro k
      induction k with
      | zero => intro _ y hy; simp [pairsN] at hy
      | succ k ih =>
        intro hk y hy
        rw [pairsN] at hy
        have ek : (rowC 0 (n + 1))[k]? = some (entC k) := by
          unfold rowC
          rw [List.getElem?_map, List.getElem?_range' (by omega)]
          simp
        rcases List.mem_append.1 hy with hy | hy
        · have := ih (by omega) y hy; omega
        · rw [ek] at hy
          simp only at hy
          rw [if_neg (by show ((k + 1 : Nat) : Int) ≠ -1; omega)] at hy
          simp at hy
          rw [hy]
          show ((k + 1 : Nat) : Int) ≤ _
          omega
    intro y hy e
    have := this n (Nat.le_refl _) y hy
    omega

/-- An arena and a list of it, made behind w, neither part of the other. -/
def Two (w wx : World) (bA bL : Nat) (ks : List Key) (es : List EntM) : Prop :=
  Below w.heap.size w wx ∧ ∃ FA FL, ArK wx w.heap.size bA ks FA ∧ LiS wx w.heap.size bL bA es FL ∧ ∀ k, FA k → ¬ FL k
section
variable {w wx w' : World} {bA bL : Nat} {ks : List Key} {es : List EntM}
theorem Two.more (h : Two w wx bA bL ks es) (hb : Below wx.heap.size wx w') : Two w w' bA bL ks es := by
  obtain ⟨h0, FA, FL, h1, h2, h3⟩ := h
  exact ⟨h0.trans (hb.mono h0.size), FA, FL, h1.below hb, h2.below hb, h3⟩
theorem Two.new (w : World) {bA bL : Nat} {ks : List Key} {FA FL : Nat → Prop} {w1 w2 : World} (h1 : ArK w1 w.heap.size bA ks FA) (hb1 : Below w.heap.size w w1) (h2 : LiS w2 w.heap.size bL bA [] FL) (hb2 : Below w1.heap.size w1 w2) (hF : ∀ k, FL k → w1.heap.size ≤ k) : Two w w2 bA bL ks [] :=
  ⟨hb1.trans (hb2.mono hb1.size), FA, FL, h1.below hb2, h2, fun k hk e => by have := (h1.lt hk).2; have := hF k e; omega⟩
theorem two_elem (h : Two w wx bA bL ks es) (space : Int) (name : ByteArray) :
    Calls Try.prog 39 #[.pointer (some ⟨bA, 0, none⟩), .int .i64 space, .string name, .slice none 0 0] wx fun e w' =>
      e = .returned (.tuple #[.int .i64 (elemK ks space name).2.1, .int .i64 (elemK ks space name).2.2]) ∧ Two w w' bA bL (elemK ks space name).1 es := by
  obtain ⟨h0, FA, FL, h1, h2, h3⟩ := h
  refine (element_k h1 space name).mono ?_
  rintro e w' ⟨rfl, FA', g1, g2, g3⟩
  refine ⟨rfl, h0.trans (g2.below h0.size (fun k hk => (h1.lt hk).1)), FA', FL, g1, h2.mod g2 (fun k hk e => h3 k e hk), fun k hk hL => ?_⟩
  rcases g3 k hk with e | e
  · exact h3 k e hL
  · have := (h2.lt hL).2; omega
theorem Two.upd {FA FL : Nat → Prop} {es2 : List EntM} (h0 : Below w.heap.size w wx) (h1 : ArK wx w.heap.size bA ks FA) (h2 : LiS wx w.heap.size bL bA es FL) (h3 : ∀ k, FA k → ¬ FL k) (hu : UpdL FL wx w' w.heap.size bL bA es2) : Two w w' bA bL ks es2 := by
  obtain ⟨FL', g1, g2, g3⟩ := hu
  refine ⟨h0.trans (g2.below h0.size (fun k hk => (h2.lt hk).1)), FA, FL', h1.mod g2 h3, g1, fun k hk hL => ?_⟩
  rcases g3 k hL with e | e
  · exact h3 k hk e
  · have := (h1.lt hk).2; omega
theorem two_mark (h : Two w wx bA bL ks es) (hl : es.length < 1000000000000) : Calls Try.prog 31 #[.pointer (some ⟨bL, 0, none⟩)] wx fun e w' => e = .returned (.int .i64 0) ∧ Two w w' bA bL ks (es ++ [mark0]) := by
  obtain ⟨h0, FA, FL, h1, h2, h3⟩ := h
  have h2' := h2
  obtain ⟨bW, v, ps, R, hm, hF⟩ := h2'
  refine (lmark_any hm hF hl).mono ?_
  rintro e w' ⟨rfl, hu⟩
  exact ⟨rfl, Two.upd h0 h1 h2 h3 hu⟩
theorem two_clear (h : Two w wx bA bL ks es) (hl : es.length < 1000000000000) : Calls Try.prog 79 #[.pointer (some ⟨bL, 0, none⟩)] wx fun e w' => e = .returned (.int .i64 ((es.length : Int) - (leftN es : Int))) ∧ Two w w' bA bL ks (es.take (leftN es)) := by
  obtain ⟨h0, FA, FL, h1, h2, h3⟩ := h
  have h2' := h2
  obtain ⟨bW, v, ps, R, hm, hF⟩ := h2'
  refine (lclear_any hm hF hl).mono ?_
  rintro e w' ⟨rfl, hu⟩
  exact ⟨rfl, Two.upd h0 h1 h2 h3 hu⟩
theorem two_push (h : Two w wx bA bL ks es) (hl : es.length < 1000000000000) (id : Int) (t : TokM) (a : Option Addr) (cap : Nat) (hi : AttrsIn wx a t.attrs) (hn : t.attrs.length ≤ 2513169434916) :
    Calls Try.prog 32 #[.pointer (some ⟨bL, 0, none⟩), .int .i64 id, .agg (t.cells (.slice a t.attrs.length cap)).toArray] wx fun e w' => e = .returned (.int .i64 (enterE ks es id)) ∧ Two w w' bA bL ks (pushE ks es id t) := by
  obtain ⟨h0, FA, FL, h1, h2, h3⟩ := h
  have h2' := h2
  obtain ⟨bW, v, ps, R, hm, hF⟩ := h2'
  refine (lpush_any h1 hm hF hl id t a cap hi hn).mono ?_
  rintro e w' ⟨rfl, hu⟩
  exact ⟨rfl, Two.upd h0 h1 h2 h3 hu⟩
theorem two_len (h : Two w wx bA bL ks es) : Calls Try.prog 22 #[.pointer (some ⟨bL, 0, none⟩)] wx fun e w' => e = .returned (.int .i64 es.length) ∧ wx = w' := by
  obtain ⟨h0, FA, FL, h1, ⟨bW, v, ps, R, hm, hF⟩, h3⟩ := h
  exact llen_any hm
theorem two_find (h : Two w wx bA bL ks es) (hl : es.length < 1000000000000) (id : Int) : Calls Try.prog 23 #[.pointer (some ⟨bL, 0, none⟩), .int .i64 id] wx fun e w' => e = .returned (.int .i64 (placeE es id)) ∧ Two w w' bA bL ks es := by
  have h9 := h
  obtain ⟨h0, FA, FL, h1, ⟨bW, v, ps, R, hm, hF⟩, h3⟩ := h
  refine (lfind_any hm hl id).mono ?_
  rintro e w' ⟨rfl, hb⟩
  exact ⟨rfl, h9.more hb⟩
end
end Go.Proofs.Ytdabgeippkmgaaa
