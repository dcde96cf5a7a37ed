/-
  Plain: the program's Find and the document's answer the same, whatever the text.
-/
import Derived.Test.YtdhknaiggnafnaaTk
import Derived.Test.YtdhknaiggnafnaaTl
import Derived.Lib.SmallJoins
namespace Go.Proofs.Ytdhknaiggnafnaa
open Go.RowKit Go.Lib

def endsL (l : List UInt8) : Bool := ((l.drop (l.length - 1)).take (l.length - (l.length - 1))) == [59]
def fullL (l : List UInt8) : List UInt8 := bif endsL l then l else l ++ [59]
def isL (t l : List UInt8) : Bool := l == t || l == fullL t
def startsL (t l : List UInt8) : Bool := decide (l.length ≤ t.length) && t.take l.length == l
def begL (t l : List UInt8) : Bool := startsL t l || l == fullL t
def oldL (t l : List UInt8) : Bool := l == t || l == t ++ [59]
def newL (t l : List UInt8) : Bool := l == t ++ [59]

theorem endsB_eq (t : ByteArray) : endsB t = endsL t.data.toList := by
  unfold endsB endsL
  rw [extract_toList, len_data]
theorem semi_list (t : ByteArray) : (t ++ ⟨#[59]⟩).toList = t.data.toList ++ [59] := by
  rw [toList_data, Joins.data_append]
theorem fullB_eq (t : ByteArray) : (fullB t).toList = fullL t.data.toList := by
  unfold fullB fullL
  rw [endsB_eq]
  cases endsL t.data.toList with
  | true => exact toList_data t
  | false => exact semi_list t
theorem isB_eq (t s : ByteArray) : isB t s = isL t.data.toList s.data.toList := by
  unfold isB isL
  rw [fullB_eq, toList_data, toList_data]
theorem startsB_eq (t s : ByteArray) : startsB t s = startsL t.data.toList s.data.toList := by
  unfold startsB startsL
  rw [extract_toList, len_data, len_data, toList_data, List.drop_zero, Nat.sub_zero]
theorem begB_eq (t s : ByteArray) : begB t s = begL t.data.toList s.data.toList := by
  unfold begB begL
  rw [fullB_eq, toList_data, startsB_eq]
theorem oldB_eq (t s : ByteArray) : oldB t s = oldL t.data.toList s.data.toList := by
  unfold oldB oldL
  rw [semi_list, toList_data, toList_data]
theorem newB_eq (t s : ByteArray) : newB t s = newL t.data.toList s.data.toList := by
  unfold newB newL
  rw [semi_list, toList_data]

def findL (l : List UInt8) : Option (List Int) := ((tabL l).find? (fun x => isL x.1.data.toList l)).map ptsOf
def refL (l : List UInt8) : Option (List Int) :=
  match olds.find? (fun x => oldL x.1.data.toList l) with
  | some x => some [x.2]
  | none => match news.find? (fun x => newL x.1.data.toList l) with
    | some x => some [x.2]
    | none => twoM l
theorem findM_eq (s : ByteArray) : findM s = findL s.data.toList := by
  unfold findM findL
  rw [show (fun x : ByteArray × Int => isB x.1 s) = (fun x => isL x.1.data.toList s.data.toList) from funext fun x => isB_eq x.1 s]
theorem refM_eq (s : ByteArray) : refM s = refL s.data.toList := by
  unfold refM refL
  rw [show (fun x : ByteArray × Int => oldB x.1 s) = (fun x => oldL x.1.data.toList s.data.toList) from funext fun x => oldB_eq x.1 s,
    show (fun x : ByteArray × Int => newB x.1 s) = (fun x => newL x.1.data.toList s.data.toList) from funext fun x => newB_eq x.1 s, toList_data]
  rfl

/-- All texts of names. -/
def twos : List (List UInt8) := [[110, 118, 108, 116, 59], [98, 110, 101, 59], [102, 106, 108, 105, 103, 59], [97, 99, 69, 59]]
def keys : List (List UInt8) := olds.flatMap (fun x => [x.1.data.toList, x.1.data.toList ++ [59]]) ++ news.map (fun x => x.1.data.toList ++ [59]) ++ twos

theorem keys_same : ∀ l ∈ keys, findL l = refL l := by decide +kernel
theorem keys_tab : ∀ b : Fin 256, ((tabOf b.val).all fun x => keys.contains x.1.data.toList && keys.contains (fullL x.1.data.toList)) = true := by decide +kernel

theorem find_key (l : List UInt8) (h : (findL l).isSome = true) : l ∈ keys := by
  unfold findL at h
  cases e : (tabL l).find? (fun x => isL x.1.data.toList l) with
  | none => rw [e] at h; cases h
  | some x =>
    have hp := List.find?_some e
    have hm := List.mem_of_find?_eq_some e
    cases l with
    | nil => cases hm
    | cons c l =>
      have := List.all_eq_true.1 (keys_tab ⟨c.toNat, c.toNat_lt⟩) x hm
      simp only [Bool.and_eq_true, List.contains_iff_mem] at this
      simp only [isL, Bool.or_eq_true, beq_iff_eq] at hp
      rcases hp with hp | hp
      · rw [hp]; exact this.1
      · rw [hp]; exact this.2
theorem two_key (l : List UInt8) (h : (twoM l).isSome = true) : l ∈ twos := by
  unfold twoM at h
  unfold twos
  cases h1 : l == [110, 118, 108, 116, 59] with
  | true => simp at h1; simp [h1]
  | false =>
    cases h2 : l == [98, 110, 101, 59] with
    | true => simp at h2; simp [h2]
    | false =>
      cases h3 : l == [102, 106, 108, 105, 103, 59] with
      | true => simp at h3; simp [h3]
      | false =>
        cases h4 : l == [97, 99, 69, 59] with
        | true => simp at h4; simp [h4]
        | false => rw [h1, h2, h3, h4] at h; cases h
theorem ref_key (l : List UInt8) (h : (refL l).isSome = true) : l ∈ keys := by
  unfold refL at h
  unfold keys
  simp only [List.mem_append]
  cases e : olds.find? (fun x => oldL x.1.data.toList l) with
  | some x =>
    left; left
    have hp := List.find?_some e
    have hm := List.mem_of_find?_eq_some e
    simp only [oldL, Bool.or_eq_true, beq_iff_eq] at hp
    exact List.mem_flatMap.2 ⟨x, hm, by simpa using hp⟩
  | none =>
    rw [e] at h
    simp only [] at h
    cases e2 : news.find? (fun x => newL x.1.data.toList l) with
    | some x =>
      left; right
      have hp := List.find?_some e2
      have hm := List.mem_of_find?_eq_some e2
      simp only [newL, beq_iff_eq] at hp
      exact List.mem_map.2 ⟨x, hm, hp.symm⟩
    | none =>
      rw [e2] at h
      right
      exact two_key l h
theorem find_same (l : List UInt8) : findL l = refL l := by
  by_cases h : l ∈ keys
  · exact keys_same l h
  · have h1 : findL l = none := by
      cases e : findL l with
      | none => rfl
      | some x => exact absurd (find_key l (by rw [e]; rfl)) h
    have h2 : refL l = none := by
      cases e : refL l with
      | none => rfl
      | some x => exact absurd (ref_key l (by rw [e]; rfl)) h
    rw [h1, h2]
theorem find_ref (s : ByteArray) : findM s = refM s := by rw [findM_eq, refM_eq, find_same]
theorem keys_short : ∀ l ∈ keys, 1 ≤ l.length ∧ l.length ≤ 9 := by decide +kernel
theorem pts_short (s : ByteArray) : ((findM s).getD []).length ≤ 1000 := by
  unfold findM
  cases (tabL s.data.toList).find? (fun x => isB x.1 s) with
  | none => exact Nat.zero_le _
  | some x =>
    show (ptsOf x).length ≤ 1000
    unfold ptsOf
    cases secL x.1.toList <;> simp
end Go.Proofs.Ytdhknaiggnafnaa
