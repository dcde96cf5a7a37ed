/-
  EntityBegins: the program's Begins and the document's answer the same, whatever the text; the walk.
-/
import Derived.Test.YtdhknaiggnafnaaTo
namespace Go.Proofs.Ytdhknaiggnafnaa
open Go.RowKit Go.Lib

theorem startsL_iff (t l : List UInt8) : startsL t l = true ↔ l <+: t := by
  unfold startsL
  rw [Bool.and_eq_true, decide_eq_true_iff, beq_iff_eq]
  constructor
  · rintro ⟨_, h⟩; rw [← h]; exact List.take_prefix _ _
  · intro h; exact ⟨h.length_le, (List.prefix_iff_eq_take.1 h).symm⟩
theorem pre_full (t : List UInt8) : t <+: fullL t := by
  unfold fullL
  cases endsL t with
  | true => exact List.prefix_refl _
  | false => exact List.prefix_append _ _
theorem begL_iff (t l : List UInt8) : begL t l = true ↔ l <+: fullL t := by
  unfold begL
  rw [Bool.or_eq_true, startsL_iff, beq_iff_eq]
  constructor
  · rintro (h | h)
    · exact h.trans (pre_full t)
    · rw [h]; exact List.prefix_refl _
  · intro h
    unfold fullL at h ⊢
    cases e : endsL t with
    | true => rw [e] at h; exact .inl h
    | false =>
      rw [e] at h
      rcases List.prefix_concat_iff.1 h with h | h
      · exact .inr h
      · exact .inl h

def fulls : List (List UInt8) := (olds ++ news).map (fun x => x.1.data.toList ++ [59]) ++ twos
theorem fulls_tab : ∀ b : Fin 256, ((tabOf b.val).all fun x => fulls.contains (fullL x.1.data.toList)) = true := by decide +kernel
theorem tab_fulls : ∀ f ∈ fulls, ((tabL f).any fun x => fullL x.1.data.toList == f) = true := by decide +kernel

def bL (l : List UInt8) : Bool := l == [] || (tabL l).any (fun x => begL x.1.data.toList l)
def rL (l : List UInt8) : Bool := (olds ++ news).any (fun x => startsL (x.1.data.toList ++ [59]) l) || (startsL [110, 118, 108, 116, 59] l || startsL [98, 110, 101, 59] l || startsL [102, 106, 108, 105, 103, 59] l || startsL [97, 99, 69, 59] l)
theorem begM_eq (s : ByteArray) : begM s = bL s.data.toList := by
  unfold begM bL
  rw [toList_data, show (fun x : ByteArray × Int => begB x.1 s) = (fun x => begL x.1.data.toList s.data.toList) from funext fun x => begB_eq x.1 s]
theorem refB_eq (s : ByteArray) : refB s = rL s.data.toList := by
  unfold refB rL
  rw [show (fun x : ByteArray × Int => startsB (x.1 ++ ⟨#[59]⟩) s) = (fun x => startsL (x.1.data.toList ++ [59]) s.data.toList) from funext fun x => by rw [startsB_eq, ← semi_list, toList_data],
    startsB_eq, startsB_eq, startsB_eq, startsB_eq]
theorem rL_iff (l : List UInt8) : rL l = true ↔ ∃ f ∈ fulls, l <+: f := by
  unfold rL fulls twos
  simp only [Bool.or_eq_true, List.any_eq_true, startsL_iff, List.mem_append, List.mem_map, List.mem_cons, List.not_mem_nil, or_false]
  constructor
  · rintro (⟨x, hx, h⟩ | ((h | h) | h) | h)
    · exact ⟨_, .inl ⟨x, hx, rfl⟩, h⟩
    · exact ⟨_, .inr (.inl rfl), h⟩
    · exact ⟨_, .inr (.inr (.inl rfl)), h⟩
    · exact ⟨_, .inr (.inr (.inr (.inl rfl))), h⟩
    · exact ⟨_, .inr (.inr (.inr (.inr rfl))), h⟩
  · rintro ⟨f, (⟨x, hx, rfl⟩ | rfl | rfl | rfl | rfl), h⟩
    · exact .inl ⟨x, hx, h⟩
    · exact .inr (.inl (.inl (.inl h)))
    · exact .inr (.inl (.inl (.inr h)))
    · exact .inr (.inl (.inr h))
    · exact .inr (.inr h)
theorem bL_iff (l : List UInt8) : bL l = true ↔ ∃ f ∈ fulls, l <+: f := by
  unfold bL
  simp only [Bool.or_eq_true, beq_iff_eq, List.any_eq_true, begL_iff]
  constructor
  · rintro (rfl | ⟨x, hx, h⟩)
    · exact ⟨[97, 99, 69, 59], by unfold fulls twos; simp, List.nil_prefix⟩
    · cases l with
      | nil => cases hx
      | cons c l =>
        have := List.all_eq_true.1 (fulls_tab ⟨c.toNat, c.toNat_lt⟩) x hx
        exact ⟨_, List.contains_iff_mem.1 this, h⟩
  · rintro ⟨f, hf, h⟩
    cases l with
    | nil => exact .inl rfl
    | cons c l =>
      right
      have := tab_fulls f hf
      obtain ⟨x, hx, he⟩ := List.any_eq_true.1 this
      rw [beq_iff_eq] at he
      obtain ⟨t, rfl⟩ := h
      exact ⟨x, hx, by rw [he]; exact List.prefix_append _ _⟩
theorem beg_ref (s : ByteArray) : begM s = refB s := by
  rw [begM_eq, refB_eq, Bool.eq_iff_iff, bL_iff, rL_iff]

theorem entityBegins_walk (s : ByteArray) (w : World) : Calls Try.prog 5 #[.string s] w fun e w' => e = .returned (.bool true) ∧ Below w.heap.size w w' := by
  have HF := hide (fun w => begins_any s w)
  have HR := hide (fun w => by have := refBegins_any s w; rw [← beg_ref] at this; exact this)
  have HA := hide awake_any
  generalize begM s = q at HF HR
  have hqq : (q == q) = true := by cases q <;> rfl
  go_enter Try.func5, Try.ntmps5
  go_wp2_with (first
    | (go_at_call 15; refine (unhide HF _).mono ?_; rintro e w1 ⟨rfl, hw1⟩; have HW1 := hide hw1; clear hw1)
    | (go_at_call 16; refine (unhide HR _).mono ?_; rintro e w2 ⟨rfl, hw2⟩; have HW2 := hide hw2; clear hw2)
    | (go_at_call 12; refine (unhide HA _).mono ?_; rintro e w4 ⟨rfl, hw4⟩; have HW4 := hide hw4; clear hw4))
  go_ret
  refine ⟨rfl, ?_⟩
  have b1 := unhide HW1
  have b2 := b1.trans ((unhide HW2).mono b1.size)
  exact b2.trans ((unhide HW4).mono b2.size)
end Go.Proofs.Ytdhknaiggnafnaa
