/-
  The walk of InputChunks.
-/
import Derived.Test.YtlhebbhpcepfhaaQa
import Derived.Test.YtlhebbhpcepfhaaOa
namespace Go.Proofs.Ytlhebbhpcepfhaa
open Go.RowKit

/-- A stream to which l was fed. -/
def gotM (l : List Int) : StrM := ⟨[(endsM false l).1], (endsM false l).2, false, false⟩
theorem got_feed {l k : List Int} (h : l.length + k.length ≤ 1048576) : feedM (gotM l) k = (0, gotM (l ++ k)) := by
  have hl := endsM_len false l
  unfold feedM
  rw [if_neg (by simp [gotM]), if_pos (by simp [gotM, StrM.len]; omega)]
  simp [gotM, endsM_append]
theorem got_nil : gotM [] = newM := rfl
theorem got_last (l : List Int) : (finM (gotM l)).last = (endsM false l).1 := rfl

theorem endM_mem {cr : Bool} {r : Int} (h : (endM cr r).2 = true) : (endM cr r).1 = 10 ∧ (r = 13 ∨ (r = 10 ∧ cr = false)) ∨ ((endM cr r).1 = r ∧ r ≠ 13 ∧ r ≠ 10) := by
  unfold endM at h ⊢
  split at h
  · cases h
  · rename_i h1
    rw [if_neg h1]
    split
    · rename_i h2; exact .inl ⟨rfl, .inl (by simpa using h2)⟩
    · rename_i h2
      have h13 : r ≠ 13 := by simpa using h2
      by_cases h10 : r = 10
      · refine .inl ⟨h10, .inr ⟨h10, ?_⟩⟩
        cases cr
        · rfl
        · exact absurd (by simp [h10]) h1
      · exact .inr ⟨rfl, h13, h10⟩
theorem endM_no {cr : Bool} {r : Int} (h : (endM cr r).2 = false) : r = 10 ∧ cr = true := by
  unfold endM at h
  split at h
  · rename_i h1
    simp at h1
    exact ⟨h1.2, h1.1⟩
  · split at h <;> cases h

theorem ends_ne {l : List Int} (h : ∀ x ∈ l, x ≠ -1) (cr : Bool) : ∀ x ∈ (endsM cr l).1, x ≠ -1 ∧ x ≠ 13 := by
  induction l generalizing cr with
  | nil => intro x hx; simp [endsM] at hx
  | cons r l ih =>
    have ih' := ih (fun x hx => h x (List.mem_cons_of_mem _ hx)) (r == 13)
    intro x hx
    unfold endsM at hx
    simp only at hx
    split at hx
    · rename_i h1
      rcases List.mem_cons.1 hx with rfl | hx
      · rcases endM_mem h1 with ⟨e, _⟩ | ⟨e, e2, _⟩
        · rw [e]; omega
        · rw [e]; exact ⟨h r (List.mem_cons_self ..), e2⟩
      · exact ih' x hx
    · exact ih' x hx

/-- How many line ends. -/
def linesM : Bool → List Int → Nat
  | _, [] => 0
  | cr, r :: l => (r == 13 || (r == 10 && !cr)).toNat + linesM (r == 13) l
def tens (l : List Int) : Nat := (l.filter fun x => x == 10).length
theorem tens_cons (x : Int) (l : List Int) : tens (x :: l) = (x == 10).toNat + tens l := by
  unfold tens
  rw [List.filter_cons]
  cases h : (x == 10) <;> simp <;> omega
theorem lines_tens (cr : Bool) (l : List Int) : tens (endsM cr l).1 = linesM cr l := by
  induction l generalizing cr with
  | nil => rfl
  | cons r l ih =>
    have ih' := ih (r == 13)
    unfold endsM linesM
    simp only
    cases h : (endM cr r).2 with
    | false =>
      obtain ⟨e1, e2⟩ := endM_no h
      simp only [Bool.false_eq_true, if_false]
      rw [ih', e1, e2]
      simp
    | true =>
      simp only [if_true]
      rw [tens_cons, ih']
      rcases endM_mem h with ⟨e, e2⟩ | ⟨e, e2, e3⟩
      · rw [e]
        rcases e2 with e2 | ⟨e2, e4⟩
        · rw [e2]; simp
        · rw [e2, e4]; simp
      · rw [e]
        have a1 : (r == 10) = false := by simpa using e3
        have a2 : (r == 13) = false := by simpa using e2
        rw [a1, a2]
        simp
theorem lines_snoc (cr : Bool) (l : List Int) (r : Int) : linesM cr (l ++ [r]) = linesM cr l + (r == 13 || (r == 10 && !(endsM cr l).2)).toNat := by
  induction l generalizing cr with
  | nil => simp [linesM, endsM]
  | cons x l ih => simp only [List.cons_append, linesM, ih, endsM]; omega
theorem cr_at {l : List Int} {i : Nat} (hi : i < l.length) : (endsM false (l.take (i + 1))).2 = (l[i] == 13) := by rw [take_next hi, endsM_snoc]
theorem lines_le (cr : Bool) (l : List Int) : linesM cr l ≤ l.length := by
  rw [← lines_tens]
  have h1 := endsM_len cr l
  have h2 : tens (endsM cr l).1 ≤ (endsM cr l).1.length := List.length_filter_le _ _
  omega
theorem tens_append (a b : List Int) : tens (a ++ b) = tens a + tens b := by simp [tens]
theorem tens_snoc {l : List Int} {i : Nat} (hi : i < l.length) : tens (l.take (i + 1)) = tens (l.take i) + (l[i] == 10).toNat := by
  rw [take_next hi, tens_append, tens_cons]
  rfl
theorem tens_le (l : List Int) (i : Nat) : tens (l.take i) ≤ tens l := by
  unfold tens
  have := congrArg (fun k => (k.filter fun x => x == 10).length) (List.take_append_drop i l)
  simp only [List.filter_append, List.length_append] at this
  omega

/-- What is left of a list, as a slice. -/
structure Rest (p : PartM) (ra : Option Addr) (rcap c : Nat) : Prop where
  le : c ≤ p.xs.length
  room : p.xs.length - c ≤ rcap
  most : rcap ≤ maxLen
  form : rcap = 0 ∨ ∃ b off, ra = some ⟨b, off, none⟩
  lies : p.xs.drop c = [] ∨ ∃ b off, p.a = some ⟨b, off, none⟩ ∧ ra = some ⟨b, off + c, none⟩
theorem Rest.runes {w : World} {p : PartM} {ra : Option Addr} {rcap c : Nat} (h : Rest p ra rcap c) (hr : RunesIn w p.a p.xs) : RunesIn w ra (p.xs.drop c) := by
  rcases h.lies with e | ⟨b, off, e1, e2⟩
  · rw [e]; intro i x hi; simp at hi
  · rw [e1] at hr
    rw [e2]
    exact hr.drop c
theorem Rest.own {w : World} {base : Nat} {p : PartM} {ra : Option Addr} {rcap c n : Nat} (h : Rest p ra rcap c) (hp : PartAt w base p) : ∀ b off, (p.xs.drop c).take n ≠ [] → ra = some ⟨b, off, none⟩ → p.own = some b := by
  intro b off hne ha
  rcases h.lies with e | ⟨b', off', e1, e2⟩
  · rw [e] at hne; simp at hne
  · rw [ha] at e2
    cases e2
    refine part_block hp (fun hx => ?_) e1
    rw [hx] at hne
    simp at hne
theorem Rest.next {p : PartM} {b off rcap c n : Nat} (h : Rest p (some ⟨b, off, none⟩) rcap c) (hn : c + n ≤ p.xs.length) : Rest p (some (if rcap = n then ⟨b, off, none⟩ else ⟨b, off + n, none⟩)) (rcap - n) (c + n) := by
  have h1 := h.room
  have h2 := h.most
  refine ⟨hn, by omega, by omega, .inr (by split <;> exact ⟨_, _, rfl⟩), ?_⟩
  by_cases e : rcap = n
  · exact .inl (List.drop_of_length_le (by omega))
  · rcases h.lies with e1 | ⟨b', off', e1, e2⟩
    · left
      rw [← List.drop_drop, e1]
      simp
    · cases e2
      exact .inr ⟨b, off', e1, by rw [if_neg e, Nat.add_assoc]⟩

theorem Rest.first {w : World} {base : Nat} {p : PartM} (h : PartAt w base p) : Rest p p.a p.cap 0 := by
  refine ⟨Nat.zero_le _, by have := h.len; omega, h.most, ?_, ?_⟩
  · rcases h.lies with e | ⟨g, off, _, e, _⟩
    · exact .inl e
    · exact .inr ⟨g, off, e⟩
  · rcases h.lies with e | ⟨g, off, _, e, _⟩
    · left
      have := h.len
      rw [List.drop_zero]
      exact List.eq_nil_of_length_eq_zero (by omega)
    · exact .inr ⟨g, off, e, by rw [e, Nat.add_zero]⟩
theorem Rest.zero {p : PartM} {ra : Option Addr} {c : Nat} (h : Rest p ra 0 c) : c = p.xs.length := by
  have h1 := h.room
  have h2 := h.le
  omega

section
variable {w wx : World} {p : PartM} {bS bT : Nat}
theorem c_feed {m : StrM} {c n rcap cc : Nat} {ra : Option Addr} (h : Env w wx [partOb _ p, strOb _ bS (gotM (p.xs.take c)), strOb _ bT m]) (hr : Rest p ra rcap c) (hn : c + n ≤ p.xs.length) (hl : p.xs.length ≤ 5000) :
    Calls Try.prog 16 #[.pointer (some ⟨bS, 0, none⟩), .slice ra n cc] wx fun e w' => e = .returned (.int .i64 0) ∧ Env w w' [partOb _ p, strOb _ bS (gotM (p.xs.take (c + n))), strOb _ bT m] := by
  have hp := h.part (i := 0) (q := p) rfl
  have hlen : ((p.xs.drop c).take n).length = n := by simp; omega
  have := env_feed h (i := 1) (j := 0) (bS := bS) (q := p) rfl rfl (by omega) ra ((p.xs.drop c).take n) cc ((hr.runes hp.runes).take n) (hr.own hp)
  rw [hlen, got_feed (by rw [hlen, List.length_take]; omega)] at this
  have e : p.xs.take c ++ (p.xs.drop c).take n = p.xs.take (c + n) := by rw [List.take_add]
  rw [e] at this
  exact this
theorem c_feedT {m : StrM} (h : Env w wx [partOb _ p, strOb _ bS m, strOb _ bT newM]) (hl : p.xs.length ≤ 5000) :
    Calls Try.prog 16 #[.pointer (some ⟨bT, 0, none⟩), p.val] wx fun e w' => e = .returned (.int .i64 0) ∧ Env w w' [partOb _ p, strOb _ bS m, strOb _ bT (gotM p.xs)] := by
  have := env_feed_part h (i := 2) (j := 0) (bS := bT) (q := p) rfl rfl (by omega)
  rw [← got_nil, got_feed (by simp; omega), List.nil_append] at this
  exact this
theorem c_endS {l : List Int} {m : StrM} (h : Env w wx [partOb _ p, strOb _ bS (gotM l), strOb _ bT m]) : Calls Try.prog 17 #[.pointer (some ⟨bS, 0, none⟩)] wx fun e w' => e = .returned (.int .i64 0) ∧ Env w w' [partOb _ p, strOb _ bS (finM (gotM l)), strOb _ bT m] :=
  env_end h (i := 1) (bS := bS) rfl
theorem c_endT {l : List Int} {m : StrM} (h : Env w wx [partOb _ p, strOb _ bS m, strOb _ bT (gotM l)]) : Calls Try.prog 17 #[.pointer (some ⟨bT, 0, none⟩)] wx fun e w' => e = .returned (.int .i64 0) ∧ Env w w' [partOb _ p, strOb _ bS m, strOb _ bT (finM (gotM l))] :=
  env_end h (i := 2) (bS := bT) rfl
theorem c_allS {l : List Int} {m : StrM} (h : Env w wx [partOb _ p, strOb _ bS (finM (gotM l)), strOb _ bT m]) (hne : ∀ x ∈ l, x ≠ -1) (hl : l.length ≤ 5000) : Calls Try.prog 18 #[.pointer (some ⟨bS, 0, none⟩)] wx fun e w' => ∃ x, e = .returned x.val ∧ x.xs = (endsM false l).1 ∧ Env w w' [partOb _ p, strOb _ bS (drainM (finM (gotM l))), strOb _ bT m, partOb _ x] :=
  env_all h (i := 1) (bS := bS) rfl (fun x hx => (ends_ne hne false x hx).1) (by rw [got_last]; have := endsM_len false l; omega)
theorem c_allT {l : List Int} {m : StrM} {x : PartM} (h : Env w wx [partOb _ p, strOb _ bS m, strOb _ bT (finM (gotM l)), partOb _ x]) (hne : ∀ x ∈ l, x ≠ -1) (hl : l.length ≤ 5000) : Calls Try.prog 18 #[.pointer (some ⟨bT, 0, none⟩)] wx fun e w' => ∃ y, e = .returned y.val ∧ y.xs = (endsM false l).1 ∧ Env w w' [partOb _ p, strOb _ bS m, strOb _ bT (drainM (finM (gotM l))), partOb _ x, partOb _ y] :=
  env_all h (i := 2) (bS := bT) rfl (fun x hx => (ends_ne hne false x hx).1) (by rw [got_last]; have := endsM_len false l; omega)
end
theorem plain_ne (l : List Int) : ∀ x ∈ plainM l, x ≠ -1 := by
  intro x hx
  have := List.mem_of_mem_take hx
  unfold plainF at this
  have := (List.mem_filter.1 this).2
  simpa using this
end Go.Proofs.Ytlhebbhpcepfhaa
