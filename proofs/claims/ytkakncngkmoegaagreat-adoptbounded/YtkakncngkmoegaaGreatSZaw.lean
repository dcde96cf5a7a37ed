/-
  Attributes in one order: the order is whole, and two lists of attributes hold the same ones if they are the same list when brought into it, each once. No program is named here. Package active: attributes compared; a list of attributes of one's own. slices.SortFunc at attributes: the shelf's laying, in plain words (by the kit's own tool, off this seat's dump). Package active: a list of attributes of one's own; sorted.
-/
import Derived.Test.YtkakncngkmoegaaGreatSZaa
import Derived.Shelf.SlSortCmp.WholeK
import Derived.Sort.Walk0
import Derived.Test.YtkakncngkmoegaaGreatSZav
import Derived.Test.YtkakncngkmoegaaGreatSZab
import Derived.Deep.RegionHeld3
import Derived.Ground.SlsfProg
import Derived.Test.YtkakncngkmoegaaGreatProg
import Derived.Shelf.SlSortCmp.NoneTotal
namespace Go.Proofs.YtkakncngkmoegaaGreat
open Go.RowKit Go.Sort

/-- A comparison by which whatever is neither ahead nor behind is the same to it. -/
structure OrdC {α : Type} (c : α → α → Int) : Prop where
  refl : ∀ x, c x x = 0
  anti : ∀ x y, c x y < 0 ↔ 0 < c y x
  trans : ∀ x y z, c x y < 0 → c y z < 0 → c x z < 0
  same : ∀ x y z, c x y = 0 → c x z = c y z ∧ c z x = c z y

def cmpI (x y : Int) : Int := if x < y then -1 else if y < x then 1 else 0
def cmpS (x y : ByteArray) : Int := if Op.bytesLess x.toList y.toList = true then -1 else if x.toList = y.toList then 0 else 1

theorem cmpI_zero {x y : Int} (h : cmpI x y = 0) : x = y := by
  unfold cmpI at h
  split at h
  · cases h
  · split at h
    · cases h
    · omega
theorem cmpI_ord : OrdC cmpI := by
  refine ⟨fun x => by simp [cmpI], fun x y => ?_, fun x y z h1 h2 => ?_, fun x y z h => by rw [cmpI_zero h]; exact ⟨rfl, rfl⟩⟩
  · unfold cmpI
    by_cases h1 : x < y
    · simp [h1]; omega
    · by_cases h2 : y < x
      · simp [h1, h2]
      · simp [h1, h2]
  · have lt : ∀ a b, cmpI a b < 0 → a < b := by
      intro a b h
      unfold cmpI at h
      split at h
      · assumption
      · split at h <;> omega
    have h3 := lt x y h1
    have h4 := lt y z h2
    unfold cmpI
    rw [if_pos (by omega)]
    decide

theorem bytes_ext {x y : ByteArray} (h : x.toList = y.toList) : x = y := by
  rw [ByteArray.toList_eq, ByteArray.toList_eq] at h
  obtain ⟨⟨x⟩⟩ := x
  obtain ⟨⟨y⟩⟩ := y
  simpa using h
theorem cmpS_zero {x y : ByteArray} (h : cmpS x y = 0) : x = y := by
  unfold cmpS at h
  split at h
  · cases h
  · split at h
    · exact bytes_ext (by assumption)
    · cases h
theorem cmpS_neg {x y : ByteArray} : cmpS x y < 0 ↔ x.toList < y.toList := by
  unfold cmpS
  rw [bytesLess_eq]
  by_cases h : x.toList < y.toList
  · simp [h]
  · simp [h]
    split <;> omega
theorem cmpS_ord : OrdC cmpS := by
  have irr : ∀ l : List UInt8, ¬ l < l := fun l => List.lt_irrefl l
  refine ⟨fun x => ?_, fun x y => ?_, fun x y z h1 h2 => ?_, fun x y z h => by rw [cmpS_zero h]; exact ⟨rfl, rfl⟩⟩
  · unfold cmpS
    rw [bytesLess_eq]
    simp [irr]
  · rw [cmpS_neg]
    unfold cmpS
    rw [bytesLess_eq]
    by_cases h : y.toList < x.toList
    · have h2 : ¬ x.toList < y.toList := fun h3 => irr _ (List.lt_trans h h3)
      simp [h, h2]
    · by_cases e : y.toList = x.toList
      · simp [e, irr]
      · simp only [h, decide_false, e, if_false]
        constructor
        · intro _; decide
        · intro _
          rcases Nat.lt_trichotomy 0 0 with q | q | q
          · omega
          · exact Decidable.byContradiction fun hn => e (List.le_antisymm hn h)
          · omega
  · rw [cmpS_neg] at *
    exact List.lt_trans h1 h2

/-- The first of two comparisons that tells. -/
def lexC {α : Type} (c d : α → α → Int) (x y : α) : Int := if c x y ≠ 0 then c x y else d x y
theorem lexC_zero {α : Type} {c d : α → α → Int} {x y : α} (h : lexC c d x y = 0) : c x y = 0 ∧ d x y = 0 := by
  unfold lexC at h
  split at h
  · contradiction
  · rename_i h2
    exact ⟨by omega, h⟩
theorem OrdC.lex {α : Type} {c d : α → α → Int} (hc : OrdC c) (hd : OrdC d) : OrdC (lexC c d) := by
  have z : ∀ x y, c x y = 0 → c y x = 0 := fun x y h => by
    have := (hc.same x y y h).1
    have := (hc.same x y x h).2
    have := hc.refl x
    have := hc.refl y
    have := hc.anti x y
    have := hc.anti y x
    omega
  refine ⟨fun x => by simp [lexC, hc.refl, hd.refl], fun x y => ?_, fun x y w h1 h2 => ?_, fun x y w h => ?_⟩
  · unfold lexC
    by_cases h0 : c x y = 0
    · simp [h0, z x y h0]; exact hd.anti x y
    · have h1 : c y x ≠ 0 := fun h => h0 (z y x h)
      simp [h0, h1]; exact hc.anti x y
  · unfold lexC at *
    by_cases e1 : c x y = 0
    · by_cases e2 : c y w = 0
      · simp [e1] at h1; simp [e2] at h2
        have e3 : c x w = 0 := by rw [(hc.same x y w e1).1]; exact e2
        simp [e3]
        exact hd.trans x y w h1 h2
      · simp [e2] at h2
        have e3 : c x w = c y w := (hc.same x y w e1).1
        rw [e3]; simp [e2]; exact h2
    · simp [e1] at h1
      by_cases e2 : c y w = 0
      · have e3 : c x w = c x y := ((hc.same y w x e2).2).symm
        rw [e3]; simp [e1]; exact h1
      · simp [e2] at h2
        have e3 := hc.trans x y w h1 h2
        rw [if_pos (by omega)]
        exact e3
  · obtain ⟨h1, h2⟩ := lexC_zero h
    obtain ⟨a1, a2⟩ := hc.same x y w h1
    obtain ⟨b1, b2⟩ := hd.same x y w h2
    unfold lexC
    rw [a1, a2, b1, b2]
    exact ⟨rfl, rfl⟩
theorem OrdC.pull {α β : Type} {c : β → β → Int} (h : OrdC c) (f : α → β) : OrdC (fun x y => c (f x) (f y)) :=
  ⟨fun _ => h.refl _, fun _ _ => h.anti _ _, fun _ _ _ => h.trans _ _ _, fun _ _ _ => h.same _ _ _⟩

def cmpA : AttrM → AttrM → Int := lexC (fun x y => cmpI x.space y.space) (lexC (fun x y => cmpS x.pre y.pre) (lexC (fun x y => cmpS x.name y.name) (fun x y => cmpS x.val y.val)))
theorem cmpA_ord : OrdC cmpA := (cmpI_ord.pull AttrM.space).lex ((cmpS_ord.pull AttrM.pre).lex ((cmpS_ord.pull AttrM.name).lex (cmpS_ord.pull AttrM.val)))
theorem cmpA_zero {x y : AttrM} (h : cmpA x y = 0) : x = y := by
  obtain ⟨h1, h⟩ := lexC_zero h
  obtain ⟨h2, h⟩ := lexC_zero h
  obtain ⟨h3, h4⟩ := lexC_zero h
  have e1 := cmpI_zero h1
  have e2 := cmpS_zero h2
  have e3 := cmpS_zero h3
  have e4 := cmpS_zero h4
  cases x; cases y
  simp_all

theorem cmpA_swo : SWO (ltOf cmpA) := by
  have h := cmpA_ord
  refine ⟨fun x => by simp [ltOf, h.refl], fun x y z h1 h2 => ?_, fun x y z h1 h2 => ?_⟩
  · simp only [ltOf, decide_eq_true_eq] at *
    exact h.trans x y z h1 h2
  · simp only [ltOf, decide_eq_false_iff_not] at *
    intro h3
    by_cases e : cmpA x y = 0
    · rw [(h.same x y z e).1] at h3; exact h2 h3
    · have h4 : cmpA y x < 0 := (h.anti y x).2 (by omega)
      exact h2 (h.trans y x z h4 h3)
theorem cmpA_tot : ∀ x y, ltOf cmpA x y = false → ltOf cmpA y x = false → x = y := by
  intro x y h1 h2
  simp only [ltOf, decide_eq_false_iff_not] at *
  have := cmpA_ord.anti y x
  exact cmpA_zero (by omega)

/-- Whether two attributes are one. -/
def eqA (x y : AttrM) : Bool := decide (x.space = y.space) && decide (x.pre = y.pre) && decide (x.name = y.name) && decide (x.val = y.val)
theorem eqA_iff {x y : AttrM} : eqA x y = true ↔ x = y := by
  cases x; cases y
  simp [eqA, and_assoc]
theorem eqA_no {x y : AttrM} : eqA x y = false ↔ x ≠ y := by
  rw [← Bool.not_eq_true, eqA_iff]

def sortA (l : List AttrM) : List AttrM := l.mergeSort fun x y => !ltOf cmpA y x
/-- Each of a list's neighbours that are one, once. -/
def compF : AttrM → List AttrM → List AttrM
  | _, [] => []
  | p, x :: r => if eqA x p = true then compF x r else x :: compF x r
def compA : List AttrM → List AttrM
  | [] => []
  | x :: r => x :: compF x r
def setL (l : List AttrM) : List AttrM := compA (sortA l)

theorem sortA_mem {l : List AttrM} {x : AttrM} : x ∈ sortA l ↔ x ∈ l := (List.mergeSort_perm l _).mem_iff
theorem sortA_len (l : List AttrM) : (sortA l).length = l.length := (List.mergeSort_perm l _).length_eq
theorem sortA_sorted (l : List AttrM) : (sortA l).Pairwise fun x y => ltOf cmpA y x = false := by
  have h := List.pairwise_mergeSort (le := fun x y => !ltOf cmpA y x) (fun a b c h1 h2 => by
    simp only [Bool.not_eq_true'] at *
    exact cmpA_swo.ntrans c b a h2 h1) (fun a b => by
    cases h1 : ltOf cmpA b a with
    | false => simp
    | true =>
      have : ltOf cmpA a b = false := by
        cases h2 : ltOf cmpA a b with
        | false => rfl
        | true => exact absurd (cmpA_swo.trans a b a h2 h1) (by rw [cmpA_swo.irrefl]; decide)
      simp [this]) l
  exact h.imp (fun h => by simpa using h)

theorem compF_mem : ∀ (l : List AttrM) (p x : AttrM), x ∈ p :: compF p l ↔ x ∈ p :: l
  | [], p, x => by simp [compF]
  | y :: r, p, x => by
    have ih := compF_mem r y x
    unfold compF
    split
    · rename_i h
      have e := eqA_iff.1 h
      subst e
      rw [ih]
      simp
    · rw [List.mem_cons, ih, List.mem_cons (l := y :: r)]
theorem compA_mem : ∀ {l : List AttrM} {x : AttrM}, x ∈ compA l ↔ x ∈ l
  | [], x => by simp [compA]
  | y :: r, x => compF_mem r y x
theorem compF_strict : ∀ (l : List AttrM) (p : AttrM), (p :: l).Pairwise (fun x y => ltOf cmpA y x = false) → (p :: compF p l).Pairwise (fun x y => ltOf cmpA x y = true)
  | [], p, _ => by simp [compF]
  | y :: r, p, h => by
    obtain ⟨h1, h2⟩ := List.pairwise_cons.1 h
    have ih := compF_strict r y h2
    unfold compF
    split
    · rename_i e
      have e := eqA_iff.1 e
      subst e
      exact ih
    · rename_i e
      have hne : y ≠ p := fun e2 => e (eqA_iff.2 e2)
      refine List.pairwise_cons.2 ⟨fun z hz => ?_, ih⟩
      have hpy : ltOf cmpA p y = true := by
        cases h3 : ltOf cmpA p y with
        | true => rfl
        | false => exact absurd (cmpA_tot y p (h1 y (by simp)) h3) hne
      rcases List.mem_cons.1 hz with rfl | hz
      · exact hpy
      · exact cmpA_swo.trans _ _ _ hpy ((List.pairwise_cons.1 ih).1 z hz)
theorem compA_strict {l : List AttrM} (h : l.Pairwise (fun x y => ltOf cmpA y x = false)) : (compA l).Pairwise (fun x y => ltOf cmpA x y = true) := by
  cases l with
  | nil => simp [compA]
  | cons x r => exact compF_strict r x h
theorem strict_one : ∀ {a b : List AttrM}, a.Pairwise (fun x y => ltOf cmpA x y = true) → b.Pairwise (fun x y => ltOf cmpA x y = true) → (∀ x, x ∈ a ↔ x ∈ b) → a = b
  | [], [], _, _, _ => rfl
  | [], y :: b, _, _, h => by have := (h y).2 (by simp); simp at this
  | x :: a, [], _, _, h => by have := (h x).1 (by simp); simp at this
  | x :: a, y :: b, ha, hb, h => by
    obtain ⟨a1, a2⟩ := List.pairwise_cons.1 ha
    obtain ⟨b1, b2⟩ := List.pairwise_cons.1 hb
    have irr : ∀ z, ¬ ltOf cmpA z z = true := fun z => by rw [cmpA_swo.irrefl]; decide
    have e : x = y := by
      rcases List.mem_cons.1 ((h x).1 (by simp)) with e | e
      · exact e
      · rcases List.mem_cons.1 ((h y).2 (by simp)) with e2 | e2
        · exact e2.symm
        · exact absurd (cmpA_swo.trans _ _ _ (b1 x e) (a1 y e2)) (irr _)
    subst e
    rw [strict_one a2 b2 (fun z => ⟨fun hz => ?_, fun hz => ?_⟩)]
    · rcases List.mem_cons.1 ((h z).1 (List.mem_cons_of_mem _ hz)) with e | e
      · subst e; exact absurd (a1 z hz) (irr _)
      · exact e
    · rcases List.mem_cons.1 ((h z).2 (List.mem_cons_of_mem _ hz)) with e | e
      · subst e; exact absurd (b1 z hz) (irr _)
      · exact e

theorem setL_mem {l : List AttrM} {x : AttrM} : x ∈ setL l ↔ x ∈ l := compA_mem.trans sortA_mem
theorem setL_eq {a b : List AttrM} : setL a = setL b ↔ ∀ x, x ∈ a ↔ x ∈ b := by
  constructor
  · intro h x
    rw [← setL_mem (l := a), h, setL_mem]
  · intro h
    exact strict_one (compA_strict (sortA_sorted a)) (compA_strict (sortA_sorted b)) (fun x => setL_mem.trans ((h x).trans setL_mem.symm))

/-- As the document asks it: each of the one is in the other. -/
def hasA (l : List AttrM) (x : AttrM) : Bool := l.any fun y => eqA y x
def setsB (a b : List AttrM) : Bool := a.all (hasA b) && b.all (hasA a)
theorem hasA_iff {l : List AttrM} {x : AttrM} : hasA l x = true ↔ x ∈ l := by
  unfold hasA
  rw [List.any_eq_true]
  constructor
  · rintro ⟨y, hy, e⟩
    rw [← eqA_iff.1 e]; exact hy
  · intro h
    exact ⟨x, h, eqA_iff.2 rfl⟩
theorem setsB_iff {a b : List AttrM} : setsB a b = true ↔ setL a = setL b := by
  unfold setsB
  rw [Bool.and_eq_true, List.all_eq_true, List.all_eq_true, setL_eq]
  constructor
  · rintro ⟨h1, h2⟩ x
    exact ⟨fun h => hasA_iff.1 (h1 x h), fun h => hasA_iff.1 (h2 x h)⟩
  · intro h
    exact ⟨fun x hx => hasA_iff.2 ((h x).1 hx), fun x hx => hasA_iff.2 ((h x).2 hx)⟩

/-- One attribute more at the end. -/
theorem compF_snoc : ∀ (l : List AttrM) (p x q : AttrM), (p :: l).getLast? = some q → compF p (l ++ [x]) = compF p l ++ (if eqA x q = true then [] else [x])
  | [], p, x, q, h => by
    simp at h
    subst h
    simp only [List.nil_append, compF]
  | y :: r, p, x, q, h => by
    have ih := compF_snoc r y x q (by simpa using h)
    rw [List.cons_append, compF, compF, ih]
    split <;> simp
theorem compA_snoc {l : List AttrM} {p x : AttrM} {k : Nat} (hk : l.length = k + 1) (hp : l[k]? = some p) : compA (l ++ [x]) = compA l ++ (if eqA x p = true then [] else [x]) := by
  cases l with
  | nil => simp at hk
  | cons y r =>
    have e : (y :: r).getLast? = some p := by
      rw [List.getLast?_eq_getElem?, hk]
      exact hp
    rw [List.cons_append, compA, compA, compF_snoc _ _ _ _ e]
    rfl
theorem compF_len : ∀ (l : List AttrM) (p : AttrM), (compF p l).length ≤ l.length
  | [], _ => by simp [compF]
  | y :: r, p => by
    have ih := compF_len r y
    unfold compF
    split <;> simp <;> omega
theorem compA_len (l : List AttrM) : (compA l).length ≤ l.length := by
  cases l with
  | nil => simp [compA]
  | cons x r => have := compF_len r x; simp [compA]; omega
end Go.Proofs.YtkakncngkmoegaaGreat

namespace Go.Proofs.YtkakncngkmoegaaGreat
open Go.RowKit Go.Sort

theorem cmpI_any (x y : Int) (w : World) : Calls Tryz.prog 184 #[.int .i64 x, .int .i64 y] w fun e w' => e = .returned (.int .i64 (cmpI x y)) ∧ w = w' := by
  have H : ∀ W x, Calls Tryz.prog 214 #[.int .i64 x] W fun e w' => e = .returned (.bool false) ∧ W = w' := by
    intro W x
    go_enter Tryz.func214, Tryz.ntmps214
    go_wp2
    go_ret
    exact ⟨rfl, rfl⟩
  have HH := hide H
  clear H
  unfold cmpI
  by_cases h1 : x < y
  · rw [if_pos h1]
    go_enter Tryz.func184, Tryz.ntmps184
    go_wp2_with (go_at_call 214; refine ((unhide HH) _ _).mono ?_; rintro e w1 ⟨rfl, rfl⟩)
    go_ret
    exact ⟨rfl, rfl⟩
  · rw [if_neg h1]
    by_cases h2 : y < x
    · rw [if_pos h2]
      go_enter Tryz.func184, Tryz.ntmps184
      go_wp2_with (go_at_call 214; refine ((unhide HH) _ _).mono ?_; rintro e w1 ⟨rfl, rfl⟩)
      go_ret
      exact ⟨rfl, rfl⟩
    · rw [if_neg h2]
      go_enter Tryz.func184, Tryz.ntmps184
      go_wp2_with (go_at_call 214; refine ((unhide HH) _ _).mono ?_; rintro e w1 ⟨rfl, rfl⟩)
      go_ret
      exact ⟨rfl, rfl⟩

theorem cmpS_any (x y : ByteArray) (w : World) : Calls Tryz.prog 185 #[.string x, .string y] w fun e w' => e = .returned (.int .i64 (cmpS x y)) ∧ w = w' := by
  have H : ∀ W x, Calls Tryz.prog 215 #[.string x] W fun e w' => e = .returned (.bool false) ∧ W = w' := by
    intro W x
    go_enter Tryz.func215, Tryz.ntmps215
    go_wp2
    go_ret
    exact ⟨rfl, rfl⟩
  have HH := hide H
  clear H
  unfold cmpS
  cases h1 : Op.bytesLess x.toList y.toList with
  | true =>
    go_enter Tryz.func185, Tryz.ntmps185
    go_wp2_with (go_at_call 215; refine ((unhide HH) _ _).mono ?_; rintro e w1 ⟨rfl, rfl⟩)
    go_ret
    exact ⟨rfl, rfl⟩
  | false =>
    by_cases h2 : x.toList = y.toList
    · have h3 : (x.toList == y.toList) = true := by simp [h2]
      rw [if_pos h2]
      have HX := hide h2
      clear h2
      go_enter Tryz.func185, Tryz.ntmps185
      go_wp2_with (go_at_call 215; refine ((unhide HH) _ _).mono ?_; rintro e w1 ⟨rfl, rfl⟩)
      go_ret
      exact ⟨rfl, rfl⟩
    · have h3 : (x.toList == y.toList) = false := by simp [h2]
      rw [if_neg h2]
      have HX := hide h2
      clear h2
      go_enter Tryz.func185, Tryz.ntmps185
      go_wp2_with (go_at_call 215; refine ((unhide HH) _ _).mono ?_; rintro e w1 ⟨rfl, rfl⟩)
      go_ret
      exact ⟨rfl, rfl⟩

def orI : List Int → Int
  | [] => 0
  | v :: r => if v ≠ 0 then v else orI r
theorem cmpA_or (x y : AttrM) : cmpA x y = orI [cmpI x.space y.space, cmpS x.pre y.pre, cmpS x.name y.name, cmpS x.val y.val] := by
  simp only [cmpA, lexC, orI]
  split <;> try rfl
  split <;> try rfl
  split <;> try rfl
  split
  · rfl
  · omega

theorem orI_skip {L : List Int} {j : Nat} (h : ∀ i, i < j → L[i]? = some 0) : orI (L.drop j) = orI L := by
  induction j with
  | zero => simp
  | succ j ih =>
    rw [← ih (fun i hi => h i (by omega))]
    have hj := h j (by omega)
    have hlt := (List.getElem?_eq_some_iff.1 hj).1
    have e : L[j] = 0 := (List.getElem?_eq_some_iff.1 hj).2
    rw [List.drop_eq_getElem_cons hlt, e]
    rfl
theorem or_any (b : Nat) (L : List Int) (n : Nat) (hn : L.length = n) (hz : n ≤ 100) (w : World) (h : ∀ j x, L[j]? = some x → w.cell? ⟨b, j, none⟩ = some (.int .i64 x)) :
    Calls Tryz.prog 183 #[.slice (some ⟨b, 0, none⟩) n n] w fun e w' => e = .returned (.int .i64 (orI L)) ∧ w = w' := by
  have HC := hide h
  have hnz : (n : Int) ≤ 100 := by omega
  have HN := hide hn
  clear h hn hz
  go_enter Tryz.func183, Tryz.ntmps183
  go_wp2
  go_loopg [5, 8] n (fun k _ s wx => ∃ j : Nat, s = .int .i64 j ∧ j + k = n ∧ wx = w ∧ ∀ i, i < j → L[i]? = some 0)
  case atStart => exact ⟨0, rfl, by omega, rfl, fun i hi => by omega⟩
  case round =>
    obtain ⟨j, rfl, hjk, rfl, hpre⟩ := hrel
    have HP := hide hpre
    clear hpre
    by_cases hj : j < n
    · obtain ⟨x, hx⟩ : ∃ x, L[j]? = some x := ⟨_, List.getElem?_eq_getElem (by rw [unhide HN]; exact hj)⟩
      have hc := (unhide HC) j x hx
      have hjz : (j : Int) < (n : Int) := by omega
      have hj0 : (0 : Int) ≤ (j : Int) := by omega
      have HX := hide hx
      clear hx
      by_cases h0 : x = 0
      · subst h0
        go_wp2
        go_roundg (gk - 1)
        case measure => omega
        case rel =>
          refine ⟨j + 1, by go_num, by omega, rfl, fun i hi => ?_⟩
          by_cases e : i = j
          · subst e; exact unhide HX
          · exact (unhide HP) i (by omega)
      · have h0' : (x != 0) = true := by simpa using h0
        have HE : Hid (orI L = x) := hide (by
          have hlt := (List.getElem?_eq_some_iff.1 (unhide HX)).1
          have e : L[j] = x := (List.getElem?_eq_some_iff.1 (unhide HX)).2
          rw [← orI_skip (unhide HP), List.drop_eq_getElem_cons hlt, e, orI, if_pos h0])
        clear h0
        go_wp2
        go_ret
        exact ⟨by rw [unhide HE]; rfl, rfl⟩
    · have hjz : ¬ (j : Int) < (n : Int) := by omega
      have HE : Hid (orI L = 0) := hide (by
        rw [← orI_skip (unhide HP), List.drop_of_length_le (by rw [unhide HN]; omega)]; rfl)
      go_wp2
      go_ret
      exact ⟨by rw [unhide HE]; rfl, rfl⟩

/-- Two attributes in the first two blocks. -/
theorem two_attrs (w : World) (a0 a1 a2 a3 b0 b1 b2 b3 : Value) (t : TypeId) :
    let W := (w.alloc (.cells #[a0, a1, a2, a3] t)).alloc (.cells #[b0, b1, b2, b3] t)
    W.cell? ⟨w.heap.size, 0, none⟩ = some a0 ∧ W.cell? ⟨w.heap.size, 1, none⟩ = some a1 ∧ W.cell? ⟨w.heap.size, 2, none⟩ = some a2 ∧ W.cell? ⟨w.heap.size, 3, none⟩ = some a3 ∧
    W.cell? ⟨w.heap.size + 1, 0, none⟩ = some b0 ∧ W.cell? ⟨w.heap.size + 1, 1, none⟩ = some b1 ∧ W.cell? ⟨w.heap.size + 1, 2, none⟩ = some b2 ∧ W.cell? ⟨w.heap.size + 1, 3, none⟩ = some b3 := by
  have h1 := heap_alloc2_old w (.cells #[a0, a1, a2, a3] t) (.cells #[b0, b1, b2, b3] t)
  have h2 := heap_alloc2_new w (.cells #[a0, a1, a2, a3] t) (.cells #[b0, b1, b2, b3] t)
  have k1 := fun j => cell_of_row _ _ j _ _ _ h1
  have k2 := fun j => cell_of_row _ _ j _ _ _ h2
  refine ⟨?_, ?_, ?_, ?_, ?_, ?_, ?_, ?_⟩ <;> first | (rw [k1]; rfl) | (rw [k2]; rfl)

theorem four_in (X : World) (b : Nat) (hb : X.heap.size = b) (v0 v1 v2 v3 : Int) (t : TypeId) : ∀ j x, [v0, v1, v2, v3][j]? = some x → (X.alloc (.cells #[.int .i64 v0, .int .i64 v1, .int .i64 v2, .int .i64 v3] t)).cell? ⟨b, j, none⟩ = some (.int .i64 x) := by
  subst hb
  intro j x hj
  rw [cell_of_row _ _ j _ _ _ (heap_alloc_new X _)]
  match j, hj with
  | 0, hj => simpa using hj
  | 1, hj => simpa using hj
  | 2, hj => simpa using hj
  | 3, hj => simpa using hj
theorem two_attrs_more {W : World} {n : Nat} {a0 a1 a2 a3 b0 b1 b2 b3 : Value} (h : W.cell? ⟨n, 0, none⟩ = some a0 ∧ W.cell? ⟨n, 1, none⟩ = some a1 ∧ W.cell? ⟨n, 2, none⟩ = some a2 ∧ W.cell? ⟨n, 3, none⟩ = some a3 ∧
    W.cell? ⟨n + 1, 0, none⟩ = some b0 ∧ W.cell? ⟨n + 1, 1, none⟩ = some b1 ∧ W.cell? ⟨n + 1, 2, none⟩ = some b2 ∧ W.cell? ⟨n + 1, 3, none⟩ = some b3) (o : Obj) :
    (W.alloc o).cell? ⟨n, 0, none⟩ = some a0 ∧ (W.alloc o).cell? ⟨n, 1, none⟩ = some a1 ∧ (W.alloc o).cell? ⟨n, 2, none⟩ = some a2 ∧ (W.alloc o).cell? ⟨n, 3, none⟩ = some a3 ∧
    (W.alloc o).cell? ⟨n + 1, 0, none⟩ = some b0 ∧ (W.alloc o).cell? ⟨n + 1, 1, none⟩ = some b1 ∧ (W.alloc o).cell? ⟨n + 1, 2, none⟩ = some b2 ∧ (W.alloc o).cell? ⟨n + 1, 3, none⟩ = some b3 := by
  obtain ⟨h0, h1, h2, h3, h4, h5, h6, h7⟩ := h
  exact ⟨Lib.cell?_alloc_some o h0, Lib.cell?_alloc_some o h1, Lib.cell?_alloc_some o h2, Lib.cell?_alloc_some o h3, Lib.cell?_alloc_some o h4, Lib.cell?_alloc_some o h5, Lib.cell?_alloc_some o h6, Lib.cell?_alloc_some o h7⟩

set_option maxHeartbeats 2000000 in
theorem compare_any (x y : AttrM) (w : World) : Calls Tryz.prog 146 #[.agg #[.int .i64 x.space, .string x.pre, .string x.name, .string x.val], .agg #[.int .i64 y.space, .string y.pre, .string y.name, .string y.val]] w fun e w' => e = .returned (.int .i64 (cmpA x y)) ∧ ∃ q os', w' = grow (w.drewN q) os' := by
  rw [cmpA_or]
  have H0 := hide (cmpI_any x.space y.space)
  have H1 := hide (cmpS_any x.pre y.pre)
  have H2 := hide (cmpS_any x.name y.name)
  have H3 := hide (cmpS_any x.val y.val)
  generalize cmpI x.space y.space = v0 at *
  generalize cmpS x.pre y.pre = v1 at *
  generalize cmpS x.name y.name = v2 at *
  generalize cmpS x.val y.val = v3 at *
  obtain ⟨x0, x1, x2, x3⟩ := x
  obtain ⟨y0, y1, y2, y3⟩ := y
  simp only at H0 H1 H2 H3 ⊢
  have HC := hide (two_attrs w (.int .i64 x0) (.string x1) (.string x2) (.string x3) (.int .i64 y0) (.string y1) (.string y2) (.string y3) 148)
  have HF := hide (four_in ((w.alloc (.cells #[.int .i64 x0, .string x1, .string x2, .string x3] 148)).alloc (.cells #[.int .i64 y0, .string y1, .string y2, .string y3] 148)) (w.heap.size + 1 + 1) (by simp) v0 v1 v2 v3 3)
  go_enter Tryz.func146, Tryz.ntmps146
  go_wp2_with fail
  go_region_held3 (fun w' => w'.cell? ⟨w.heap.size, 0, none⟩ = some (.int .i64 x0) ∧ w'.cell? ⟨w.heap.size, 1, none⟩ = some (.string x1) ∧ w'.cell? ⟨w.heap.size, 2, none⟩ = some (.string x2) ∧ w'.cell? ⟨w.heap.size, 3, none⟩ = some (.string x3) ∧ w'.cell? ⟨w.heap.size + 1, 0, none⟩ = some (.int .i64 y0) ∧ w'.cell? ⟨w.heap.size + 1, 1, none⟩ = some (.string y1) ∧ w'.cell? ⟨w.heap.size + 1, 2, none⟩ = some (.string y2) ∧ w'.cell? ⟨w.heap.size + 1, 3, none⟩ = some (.string y3)) (first | exact unhide HC | exact two_attrs_more (unhide HC) _) (first
    | (go_at_call 184; refine ((unhide H0) _).mono ?_; rintro e w1 ⟨rfl, rfl⟩; have M1 := hide trivial)
    | (have _x := unhide M3; clear _x; go_at_call 185; refine ((unhide H3) _).mono ?_; rintro e w1 ⟨rfl, rfl⟩; have M4 := hide trivial)
    | (have _x := unhide M2; clear _x; go_at_call 185; refine ((unhide H2) _).mono ?_; rintro e w1 ⟨rfl, rfl⟩; have M3 := hide trivial)
    | (have _x := unhide M1; clear _x; go_at_call 185; refine ((unhide H1) _).mono ?_; rintro e w1 ⟨rfl, rfl⟩; have M2 := hide trivial)
    | (go_at_call 183; refine (or_any (w.heap.size + 1 + 1) [v0, v1, v2, v3] 4 rfl (by omega) _ (by exact unhide HF)).mono ?_; rintro e w1 ⟨rfl, rfl⟩))
  all_goals go_wp2
  all_goals go_ret
  all_goals refine ⟨rfl, 1, #[.cells #[.int .i64 x0, .string x1, .string x2, .string x3] 148, .cells #[.int .i64 y0, .string y1, .string y2, .string y3] 148, .cells #[.int .i64 v0, .int .i64 v1, .int .i64 v2, .int .i64 v3] 3], ?_⟩
  all_goals rfl
end Go.Proofs.YtkakncngkmoegaaGreat

namespace Go.Proofs
open Go.Shelf
def Tryz.sortA_ren : Go.Shelf.Ren := ⟨fun | 6 => 145 | 15 => 182 | 14 => 181 | 28 => 212 | 29 => 213 | 20 => 204 | 21 => 205 | 22 => 206 | 23 => 207 | 24 => 208 | 25 => 209 | 26 => 210 | 27 => 211 | 46 => 224 | 47 => 225 | 48 => 226 | 49 => 227 | 50 => 228 | 57 => 230 | n => n, fun | 22 => 45 | 24 => 148 | 25 => 200 | 3 => 3 | 39 => 226 | 0 => 0 | 53 => 246 | 55 => 248 | 4 => 4 | 46 => 239 | 45 => 238 | 50 => 243 | 5 => 5 | 9 => 9 | 66 => 252 | 70 => 256 | 76 => 260 | 77 => 75 | n => n, fun | n => n⟩
theorem Tryz.sortA : Go.Proofs.SlLaysF0.n6 Tryz.prog Tryz.sortA_ren := {
  mixed := by kernel_rfl
  f6 := ⟨Tryz.f145.name, by decide, Tryz.func145.trans (congrArg some (by kernel_rfl))⟩
  f14 := ⟨Tryz.f181.name, by decide, Tryz.func181.trans (congrArg some (by kernel_rfl))⟩
  f15 := Tryz.func182.trans (congrArg some (by kernel_rfl))
  f20 := ⟨Tryz.f204.name, by decide, Tryz.func204.trans (congrArg some (by kernel_rfl))⟩
  f21 := ⟨Tryz.f205.name, by decide, Tryz.func205.trans (congrArg some (by kernel_rfl))⟩
  f22 := ⟨Tryz.f206.name, by decide, Tryz.func206.trans (congrArg some (by kernel_rfl))⟩
  f23 := ⟨Tryz.f207.name, by decide, Tryz.func207.trans (congrArg some (by kernel_rfl))⟩
  f24 := ⟨Tryz.f208.name, by decide, Tryz.func208.trans (congrArg some (by kernel_rfl))⟩
  f25 := ⟨Tryz.f209.name, by decide, Tryz.func209.trans (congrArg some (by kernel_rfl))⟩
  f26 := ⟨Tryz.f210.name, by decide, Tryz.func210.trans (congrArg some (by kernel_rfl))⟩
  f27 := ⟨Tryz.f211.name, by decide, Tryz.func211.trans (congrArg some (by kernel_rfl))⟩
  f28 := Tryz.func212.trans (congrArg some (by kernel_rfl))
  f29 := Tryz.func213.trans (congrArg some (by kernel_rfl))
  f46 := ⟨Tryz.f224.name, by decide, Tryz.func224.trans (congrArg some (by kernel_rfl))⟩
  f47 := Tryz.func225.trans (congrArg some (by kernel_rfl))
  f48 := Tryz.func226.trans (congrArg some (by kernel_rfl))
  f49 := ⟨Tryz.f227.name, by decide, Tryz.func227.trans (congrArg some (by kernel_rfl))⟩
  f50 := ⟨Tryz.f228.name, by decide, Tryz.func228.trans (congrArg some (by kernel_rfl))⟩
  f57 := ⟨Tryz.f230.name, by decide, Tryz.func230.trans (congrArg some (by kernel_rfl))⟩
  t0 := Tryz.underlying0
  a0 := Tryz.isAgg0
  z0 := Tryz.sizeOf0
  v0 := Tryz.zeroValue0
  t3 := Tryz.underlying3
  a3 := Tryz.isAgg3
  z3 := Tryz.sizeOf3
  v3 := Tryz.zeroValue3
  t4 := Tryz.underlying4
  a4 := Tryz.isAgg4
  z4 := Tryz.sizeOf4
  v4 := Tryz.zeroValue4
  t5 := Tryz.underlying5
  a5 := Tryz.isAgg5
  z5 := Tryz.sizeOf5
  v5 := Tryz.zeroValue5
  t9 := Tryz.underlying9
  a9 := Tryz.isAgg9
  z9 := Tryz.sizeOf9
  v9 := Tryz.zeroValue9
  t22 := Tryz.underlying45
  a22 := Tryz.isAgg45
  z22 := Tryz.sizeOf45
  v22 := Tryz.zeroValue45
  t25 := Tryz.underlying200
  a25 := Tryz.isAgg200
  z25 := Tryz.sizeOf200
  v25 := Tryz.zeroValue200
  t39 := Tryz.underlying226
  a39 := Tryz.isAgg226
  z39 := Tryz.sizeOf226
  v39 := Tryz.zeroValue226
  t45 := Tryz.underlying238
  a45 := Tryz.isAgg238
  z45 := Tryz.sizeOf238
  v45 := Tryz.zeroValue238
  t46 := Tryz.underlying239
  a46 := Tryz.isAgg239
  z46 := Tryz.sizeOf239
  v46 := Tryz.zeroValue239
  t50 := Tryz.underlying243
  a50 := Tryz.isAgg243
  z50 := Tryz.sizeOf243
  v50 := Tryz.zeroValue243
  t53 := Tryz.underlying246
  a53 := Tryz.isAgg246
  z53 := Tryz.sizeOf246
  v53 := Tryz.zeroValue246
  t55 := Tryz.underlying248
  a55 := Tryz.isAgg248
  z55 := Tryz.sizeOf248
  v55 := Tryz.zeroValue248
  t66 := Tryz.underlying252
  a66 := Tryz.isAgg252
  z66 := Tryz.sizeOf252
  v66 := Tryz.zeroValue252
  t70 := Tryz.underlying256
  a70 := Tryz.isAgg256
  z70 := Tryz.sizeOf256
  v70 := Tryz.zeroValue256
  t76 := Tryz.underlying260
  a76 := Tryz.isAgg260
  z76 := Tryz.sizeOf260
  v76 := Tryz.zeroValue260
  t77 := Tryz.underlying75
  a77 := Tryz.isAgg75
  z77 := Tryz.sizeOf75
  v77 := Tryz.zeroValue75 }
end Go.Proofs

namespace Go.Proofs.YtkakncngkmoegaaGreat
open Go.RowKit Go.Sort Go.Shelf

/-- A block that holds these attributes and nothing else. -/
def RowT (w : World) (g : Nat) (l : List AttrM) : Prop := w.heap[g]? = some (.cells (attrRow l).toArray 148 (0, 0))
theorem attrRow_len (l : List AttrM) : (attrRow l).length = l.length * 4 := flat_len AttrM.cells 4 attr_len l
theorem attrRow_get (l : List AttrM) (i j : Nat) (hj : j < 4) : (attrRow l)[i * 4 + j]? = (l[i]?).bind fun x => x.cells[j]? := flat_get AttrM.cells 4 attr_len l i j hj

section
variable {w w' : World} {g : Nat} {l : List AttrM}
theorem RowT.lt (h : RowT w g l) : g < w.heap.size := lt_of_block h
theorem RowT.below (h : RowT w g l) (hb : Below w.heap.size w w') : RowT w' g l := (hb.block g h.lt).trans h
theorem RowT.mod {F : Nat → Prop} (h : RowT w g l) (hm : Mod F w w') (hF : ¬ F g) : RowT w' g l := (hm.block g h.lt hF).trans h
theorem RowT.cell (h : RowT w g l) {i : Nat} {x : AttrM} (hi : l[i]? = some x) (j : Nat) (hj : j < 4) : w.cell? ⟨g, i * 4 + j, none⟩ = x.cells[j]? := by
  rw [cell_of_row w g _ _ _ _ h, List.getElem?_toArray, attrRow_get l i j hj, hi]; rfl
theorem RowT.four (h : RowT w g l) {i : Nat} {x : AttrM} (hi : l[i]? = some x) : w.cell? ⟨g, i * 4, none⟩ = some (.int .i64 x.space) ∧ w.cell? ⟨g, i * 4 + 1, none⟩ = some (.string x.pre) ∧ w.cell? ⟨g, i * 4 + 2, none⟩ = some (.string x.name) ∧ w.cell? ⟨g, i * 4 + 3, none⟩ = some (.string x.val) :=
  ⟨h.cell hi 0 (by omega), h.cell hi 1 (by omega), h.cell hi 2 (by omega), h.cell hi 3 (by omega)⟩
theorem RowT.attrs (h : RowT w g l) : AttrsIn w (some ⟨g, 0, none⟩) l := ⟨fun i x hi => by
  obtain ⟨c0, c1, c2, c3⟩ := h.four hi
  exact ⟨g, 0, rfl, by rw [Nat.zero_add]; exact c0, by rw [Nat.zero_add]; exact c1, by rw [Nat.zero_add]; exact c2, by rw [Nat.zero_add]; exact c3⟩⟩
theorem RowT.frozen (h : RowT w g l) (j : Nat) : w.frozen? ⟨g, j, none⟩ = false := by
  unfold RowT at h
  simp [World.frozen?, h]
theorem AttrsIn.modA {F : Nat → Prop} {a : Option Addr} (h : AttrsIn w a l) (hm : Mod F w w') (hF : ∀ b off, a = some ⟨b, off, none⟩ → ¬ F b) : AttrsIn w' a l := by
  refine ⟨fun i x hi => ?_⟩
  obtain ⟨b, off, e, c0, c1, c2, c3⟩ := h.cells i x hi
  have hb := hm.block b (World.block_lt_of_cell? w _ c0) (hF b off e)
  exact ⟨b, off, e, (World.cell?_of_block hb).trans c0, (World.cell?_of_block hb).trans c1, (World.cell?_of_block hb).trans c2, (World.cell?_of_block hb).trans c3⟩
end

def encA (x : AttrM) : List Value := x.cells

theorem RowT.of_owns {w : World} {base g n : Nat} {l : List AttrM} (h : w.ownsRow base 148 4 (.slice (some ⟨g, 0, none⟩) n n) n (attrRow l)) : RowT w g l := by
  rcases h.2 with ⟨h', _⟩ | ⟨g', cap', cur, h', hb, hg, hnc, hcm, hcs, htake⟩
  · simp at h'
  · simp only [Value.slice.injEq, Option.some.injEq, Addr.mk.injEq, and_true, true_and] at h'
    obtain ⟨rfl, rfl⟩ := h'
    have e : cur = (attrRow l).toArray := by
      rw [← htake, List.take_of_length_le (by simp [hcs])]
    rw [e] at hg
    exact hg

set_option maxHeartbeats 400000 in
/-- A list of its own: new memory, nil if it is empty. -/
theorem ownA_any (w : World) (a : Option Addr) (cap : Nat) (l : List AttrM) (hl : AttrsIn w a l) (hn : l.length ≤ 2513169434916) :
    Calls Tryz.prog 108 #[.slice a l.length cap] w fun e w' => (l = [] ∧ e = .returned (.slice none 0 0) ∧ w' = w) ∨ (0 < l.length ∧ e = .returned (.slice (some ⟨w.heap.size, 0, none⟩) l.length l.length) ∧ RowT w' w.heap.size l ∧ Below w.heap.size w w') := by
  by_cases h0 : l.length = 0
  · have hnil : l = [] := List.eq_nil_of_length_eq_zero h0
    subst hnil
    clear h0
    go_enter Tryz.func108, Tryz.ntmps108
    go_wp2
    go_ret
    exact .inl ⟨trivial, rfl, rfl⟩
  · obtain ⟨b, off, rfl⟩ := Addr.of_lt hl (by omega)
    have hrow := hl.row
    have hlen := attrRow_len l
    obtain ⟨i0, hi, hz0, hz1, hz2⟩ := info_parts Tryz.info148
    have h0' : ((l.length : Int) == 0) = false := beq_eq_false_iff_ne.2 (by omega)
    have HR := hide hrow
    have HL := hide hlen
    clear hrow hlen hl
    go_enter Tryz.func108, Tryz.ntmps108
    go_wp2_with (first
      | (at_make; go_must (refine wpList_make_full _ rfl _ _ 45 rfl w.heap.size 148 i0 _ 4 Tryz.underlying45 hi hz0 hz1 _ _ _ _ l.length rfl rfl rfl rfl (by rw [hz2]; omega) (by unfold maxLen; omega) (Nat.le_refl _) ?_); intro w1 hown1 hgrow1)
      | (refine wpList_copy_full rfl _ _ 45 45 rfl w.heap.size 148 4 Tryz.underlying45 Tryz.size148 _ l.length l.length _ ⟨b, off, none⟩ cap rfl rfl hown1 (attrRow l) (unhide HL) (fun j v hv => (hgrow1.cell ((unhide HR) j v hv) (by simp))) (attrs_oneCell l) ?_; intro w2 hown2 hgrow2))
    go_ret
    exact .inr ⟨by omega, rfl, RowT.of_owns hown2, ((Below.refl _ w).grown hgrow1 (Nat.le_refl _) (by simp)).grown hgrow2 hgrow1.size (fun k hk => by simp at hk; omega)⟩

section
variable [Inhabited AttrM]
theorem RowT.holds {w : World} {g : Nat} {l : List AttrM} (h : RowT w g l) : HoldsK encA 4 w g 0 l.toArray := by
  intro j hj
  rw [size_flatK] at hj
  have hj' : j < l.length * 4 := by simpa using hj
  refine ⟨?_, h.frozen _⟩
  rw [get_flatK _ _ _ _ hj, Nat.zero_add]
  obtain ⟨i, r, rfl, hr⟩ : ∃ i r, j = i * 4 + r ∧ r < 4 := ⟨j / 4, j % 4, by omega, by omega⟩
  have hi : i < l.length := by omega
  have e1 : (i * 4 + r) / 4 = i := by omega
  have e2 : (i * 4 + r) % 4 = r := by omega
  rw [e1, e2, h.cell (List.getElem?_eq_getElem hi) r hr]
  have e3 : l.toArray[i]! = l[i] := by rw [getElem!_pos _ _ (by simpa using hi)]; simp
  rw [e3]
  have hlen : r < (encA l[i]).length := by rw [show (encA l[i]).length = 4 from rfl]; exact hr
  rw [getElem!_pos (encA l[i]) r hlen]
  exact List.getElem?_eq_getElem hlen

theorem sortW_row {w : World} {g : Nat} {l l' : List AttrM} (h : RowT w g l) (hl : l'.length = l.length) (n : Nat) (os : Array Obj) :
    RowT (sortWorldK encA 4 w g 0 n l'.toArray os) g l' ∧ Mod (fun k => k = g) w (sortWorldK encA 4 w g 0 n l'.toArray os) := by
  have hg := h.lt
  have hh : HoldsK encA 4 (putRowK encA 4 (Sort.ahead w n) g 0 l'.toArray) g 0 l'.toArray := holdsK_putRowK encA 4 _ g 0 l.toArray l'.toArray (holdsK_ahead _ _ _ _ _ _ _ h.holds) (by simp [hl])
  have hother : ∀ k, k ≠ g → (putRowK encA 4 (Sort.ahead w n) g 0 l'.toArray).heap[k]? = w.heap[k]? := by
    intro k hk
    have hk' : ¬ g = k := fun e => hk e.symm
    show (mapBlock (Sort.ahead w n) g _).heap[k]? = _
    simp only [mapBlock, Array.getElem?_modify, if_neg hk']
    rfl
  have hself : ∃ c : Array Value, (putRowK encA 4 (Sort.ahead w n) g 0 l'.toArray).heap[g]? = some (.cells c 148 (0, 0)) ∧ c.size = l.length * 4 := by
    have h0 : (Sort.ahead w n).heap[g]? = some (.cells (attrRow l).toArray 148 (0, 0)) := h
    refine ⟨putCells id 0 (flatK encA 4 l'.toArray) (attrRow l).toArray, ?_, by simp [putCells, attrRow_len]⟩
    show (mapBlock (Sort.ahead w n) g _).heap[g]? = _
    simp only [mapBlock, Array.getElem?_modify, if_true, h0]
    rfl
  obtain ⟨c, hc, hcs⟩ := hself
  have ec : c = (attrRow l').toArray := by
    apply Array.ext_getElem?
    intro t
    by_cases ht : t < l'.length * 4
    · obtain ⟨i, r, rfl, hr⟩ : ∃ i r, t = i * 4 + r ∧ r < 4 := ⟨t / 4, t % 4, by omega, by omega⟩
      have hi : i < l'.length := by omega
      have h1 := (hh.cell (i := i) (c := r) (by simpa using hi) hr).1
      rw [Nat.zero_add, cell_of_row _ _ _ _ _ _ hc] at h1
      rw [h1, List.getElem?_toArray, attrRow_get l' i r hr, List.getElem?_eq_getElem hi]
      have e3 : l'.toArray[i]! = l'[i] := by rw [getElem!_pos _ _ (by simpa using hi)]; simp
      rw [e3]
      have hlen : r < (encA l'[i]).length := by rw [show (encA l'[i]).length = 4 from rfl]; exact hr
      rw [getElem!_pos (encA l'[i]) r hlen]
      exact (List.getElem?_eq_getElem hlen).symm
    · rw [Array.getElem?_eq_none (by omega), List.getElem?_toArray, List.getElem?_eq_none (by rw [attrRow_len]; omega)]
  subst ec
  have hsz : (putRowK encA 4 (Sort.ahead w n) g 0 l'.toArray).heap.size = w.heap.size := by unfold putRowK; rw [size_putRow]; rfl
  refine ⟨?_, rfl, rfl, rfl, ?_, fun k hk hne => ?_⟩
  · show (grow _ os).heap[g]? = _
    rw [heap_grow_old _ _ (by rw [hsz]; exact hg)]
    exact hc
  · show w.heap.size ≤ (grow _ os).heap.size
    rw [size_grow, hsz]; omega
  · show (grow _ os).heap[k]? = _
    rw [heap_grow_old _ _ (by rw [hsz]; exact hk)]
    exact hother k hne
end

theorem sort_any {w : World} {g : Nat} {l : List AttrM} (h : RowT w g l) (cap : Nat) (hl : l.length ≤ 2513169434916) :
    Calls Tryz.prog 145 #[.slice (some ⟨g, 0, none⟩) l.length cap, .func (.func 146) #[] #[]] w fun e w' => e = .returned (.tuple #[]) ∧ RowT w' g (sortA l) ∧ Mod (fun k => k = g) w w' := by
  haveI : Inhabited AttrM := ⟨⟨0, ⟨#[]⟩, ⟨#[]⟩, ⟨#[]⟩⟩⟩
  have eg : ∀ args w, (callFunc 146 args).run Tryz.prog w = .ok (.enter 146 args) w := enters_of Tryz.func146 (by kernel_rfl) rfl
  have hcon := AnyQ.slices_SortFunc_total Tryz.sortA 4 Tryz.isAgg148 Tryz.sizeOf148 encA (fun _ => rfl) (fun x v hv => by simp [encA, AttrM.cells] at hv; rcases hv with rfl | rfl | rfl | rfl <;> rfl) cmpA cmpA_swo 146 #[] g 0 cap l.toArray w eg
    (fun _ _ _ _ x y => compare_any x y _) h.holds h.lt (by simp; omega) cmpA_tot
  change Calls Tryz.prog 145 _ _ _ at hcon
  rw [List.size_toArray] at hcon
  refine hcon.mono ?_
  rintro e w' ⟨rfl, n, os, rfl⟩
  obtain ⟨h1, h2⟩ := sortW_row (l' := sortA l) h (sortA_len l) n os
  exact ⟨rfl, h1, h2⟩
theorem sortN_any (w : World) (cap : Nat) :
    Calls Tryz.prog 145 #[.slice none 0 cap, .func (.func 146) #[] #[]] w fun e w' => e = .returned (.tuple #[]) ∧ w' = w :=
  AnyF.slices_SortFunc_none Tryz.sortA none cap _ w
end Go.Proofs.YtkakncngkmoegaaGreat
