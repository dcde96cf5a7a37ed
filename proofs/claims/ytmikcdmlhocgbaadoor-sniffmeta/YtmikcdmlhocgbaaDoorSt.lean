/-
  Package sniff's step, where no tag is next.
-/
import Derived.Test.YtmikcdmlhocgbaaDoorSs
namespace Go.Proofs.YtmikcdmlhocgbaaDoor
open Go.RowKit Go.Lib Go.Shelf
attribute [local go_sem] Oper.semAt_some
section
variable {w : World} {b k : Nat} {t : ByteArray}

set_option maxHeartbeats 2000000 in
theorem step_FFF_exT {S : ByteArray → Bool} {A : Bool} {L : Int → Bool} (h : Sc w b t k) (hk : k < t.size) (hs : Small t) (hA : Asks b k t S A L) (h1 : S ⟨#[60, 33, 45, 45]⟩ = false) (h2 : S ⟨#[60, 109, 101, 116, 97]⟩ = false) (h3 : S ⟨#[60]⟩ = false) (h4 : S ⟨#[60, 47]⟩ = false) (h5 : S ⟨#[60, 33]⟩ = true) :
    Calls Tryd.prog 21 #[.pointer (some ⟨b, 0, none⟩)] w fun e w' => e = .returned (.tuple #[.int .i64 0, .bool false]) ∧ Gone w w' b t (behindM [62] t.data.toList k) := by
  obtain ⟨c0, c1, cf⟩ := h.cells
  have cf1 := cf 1
  have hw : IntKind.i64.wrap ((k : Int) + 1) = (k : Int) + 1 := by unfold Small at hs; exact wrap_add k 1 (by omega) (by omega)
  have HA := hide hA
  have HSC := hide h
  have HF : Hid (∀ W, Sc W b t k → Calls Tryd.prog 39 #[.pointer (some ⟨b, 0, none⟩), .string ⟨#[62]⟩] W fun e w' => e = .returned (.tuple #[]) ∧ Gone W w' b t (behindM [62] t.data.toList k)) :=
    hide (fun W hW => findBehind_any hW (Nat.le_of_lt hk) hs ⟨#[62]⟩ (by decide) (by decide))
  generalize behindM [62] t.data.toList k = q at HF ⊢
  clear h hk hs cf hA
  go_enter Tryd.func21, Tryd.ntmps21
  go_wp2_with (first
      | (go_at_call 32; refine ((unhide HA).sees _ _ (by exact unhide HSC) (by decide) (by decide)).mono ?_; rintro e w1 ⟨rfl, m, rfl⟩)
      | (go_at_call 40; refine ((unhide HA).among _ (by exact unhide HSC)).mono ?_; rintro e w1 ⟨rfl, rfl⟩)
      | (go_at_call 42; refine ((unhide HA).letter _ _ (by decide) (by exact unhide HSC)).mono ?_; rintro e w1 ⟨rfl, rfl⟩)
      | (go_at_call 39; refine ((unhide HF) _ (by exact unhide HSC)).mono ?_; rintro e w2 ⟨rfl, hg⟩))
  go_ret2
  exact ⟨rfl, gone_dn hg⟩

set_option maxHeartbeats 2000000 in
theorem step_FFF_quT {S : ByteArray → Bool} {A : Bool} {L : Int → Bool} (h : Sc w b t k) (hk : k < t.size) (hs : Small t) (hA : Asks b k t S A L) (h1 : S ⟨#[60, 33, 45, 45]⟩ = false) (h2 : S ⟨#[60, 109, 101, 116, 97]⟩ = false) (h3 : S ⟨#[60]⟩ = false) (h4 : S ⟨#[60, 47]⟩ = false) (h5 : S ⟨#[60, 33]⟩ = false) (h6 : S ⟨#[60, 63]⟩ = true) :
    Calls Tryd.prog 21 #[.pointer (some ⟨b, 0, none⟩)] w fun e w' => e = .returned (.tuple #[.int .i64 0, .bool false]) ∧ Gone w w' b t (behindM [62] t.data.toList k) := by
  obtain ⟨c0, c1, cf⟩ := h.cells
  have cf1 := cf 1
  have hw : IntKind.i64.wrap ((k : Int) + 1) = (k : Int) + 1 := by unfold Small at hs; exact wrap_add k 1 (by omega) (by omega)
  have HA := hide hA
  have HSC := hide h
  have HF : Hid (∀ W, Sc W b t k → Calls Tryd.prog 39 #[.pointer (some ⟨b, 0, none⟩), .string ⟨#[62]⟩] W fun e w' => e = .returned (.tuple #[]) ∧ Gone W w' b t (behindM [62] t.data.toList k)) :=
    hide (fun W hW => findBehind_any hW (Nat.le_of_lt hk) hs ⟨#[62]⟩ (by decide) (by decide))
  generalize behindM [62] t.data.toList k = q at HF ⊢
  clear h hk hs cf hA
  go_enter Tryd.func21, Tryd.ntmps21
  go_wp2_with (first
      | (go_at_call 32; refine ((unhide HA).sees _ _ (by exact unhide HSC) (by decide) (by decide)).mono ?_; rintro e w1 ⟨rfl, m, rfl⟩)
      | (go_at_call 40; refine ((unhide HA).among _ (by exact unhide HSC)).mono ?_; rintro e w1 ⟨rfl, rfl⟩)
      | (go_at_call 42; refine ((unhide HA).letter _ _ (by decide) (by exact unhide HSC)).mono ?_; rintro e w1 ⟨rfl, rfl⟩)
      | (go_at_call 39; refine ((unhide HF) _ (by exact unhide HSC)).mono ?_; rintro e w2 ⟨rfl, hg⟩))
  go_ret2
  exact ⟨rfl, gone_dn hg⟩

set_option maxHeartbeats 2000000 in
theorem step_FFF_quF {S : ByteArray → Bool} {A : Bool} {L : Int → Bool} (h : Sc w b t k) (hk : k < t.size) (hs : Small t) (hA : Asks b k t S A L) (h1 : S ⟨#[60, 33, 45, 45]⟩ = false) (h2 : S ⟨#[60, 109, 101, 116, 97]⟩ = false) (h3 : S ⟨#[60]⟩ = false) (h4 : S ⟨#[60, 47]⟩ = false) (h5 : S ⟨#[60, 33]⟩ = false) (h6 : S ⟨#[60, 63]⟩ = false) :
    Calls Tryd.prog 21 #[.pointer (some ⟨b, 0, none⟩)] w fun e w' => e = .returned (.tuple #[.int .i64 0, .bool false]) ∧ Gone w w' b t (k + 1) := by
  obtain ⟨c0, c1, cf⟩ := h.cells
  have cf1 := cf 1
  have hw : IntKind.i64.wrap ((k : Int) + 1) = (k : Int) + 1 := by unfold Small at hs; exact wrap_add k 1 (by omega) (by omega)
  have HA := hide hA
  have HSC := hide h
  clear h hk hs cf hA
  go_enter Tryd.func21, Tryd.ntmps21
  go_wp2_with (first
      | (go_at_call 32; refine ((unhide HA).sees _ _ (by exact unhide HSC) (by decide) (by decide)).mono ?_; rintro e w1 ⟨rfl, m, rfl⟩)
      | (go_at_call 40; refine ((unhide HA).among _ (by exact unhide HSC)).mono ?_; rintro e w1 ⟨rfl, rfl⟩)
      | (go_at_call 42; refine ((unhide HA).letter _ _ (by decide) (by exact unhide HSC)).mono ?_; rintro e w1 ⟨rfl, rfl⟩)
      )
  go_ret2
  exact ⟨rfl, gone_set (m := _) (v := .int .i64 ((k : Int) + 1)) ⟨(unhide HSC).set (k + 1), Mod.refl _ _⟩⟩

set_option maxHeartbeats 2000000 in
theorem step_FFT_exT {S : ByteArray → Bool} {A : Bool} {L : Int → Bool} (h : Sc w b t k) (hk : k < t.size) (hs : Small t) (hA : Asks b k t S A L) (h1 : S ⟨#[60, 33, 45, 45]⟩ = false) (h2 : S ⟨#[60, 109, 101, 116, 97]⟩ = false) (h3 : S ⟨#[60]⟩ = false) (h4 : S ⟨#[60, 47]⟩ = true) (h4a : L 2 = false) (h5 : S ⟨#[60, 33]⟩ = true) :
    Calls Tryd.prog 21 #[.pointer (some ⟨b, 0, none⟩)] w fun e w' => e = .returned (.tuple #[.int .i64 0, .bool false]) ∧ Gone w w' b t (behindM [62] t.data.toList k) := by
  obtain ⟨c0, c1, cf⟩ := h.cells
  have cf1 := cf 1
  have hw : IntKind.i64.wrap ((k : Int) + 1) = (k : Int) + 1 := by unfold Small at hs; exact wrap_add k 1 (by omega) (by omega)
  have HA := hide hA
  have HSC := hide h
  have HF : Hid (∀ W, Sc W b t k → Calls Tryd.prog 39 #[.pointer (some ⟨b, 0, none⟩), .string ⟨#[62]⟩] W fun e w' => e = .returned (.tuple #[]) ∧ Gone W w' b t (behindM [62] t.data.toList k)) :=
    hide (fun W hW => findBehind_any hW (Nat.le_of_lt hk) hs ⟨#[62]⟩ (by decide) (by decide))
  generalize behindM [62] t.data.toList k = q at HF ⊢
  clear h hk hs cf hA
  go_enter Tryd.func21, Tryd.ntmps21
  go_wp2_with (first
      | (go_at_call 32; refine ((unhide HA).sees _ _ (by exact unhide HSC) (by decide) (by decide)).mono ?_; rintro e w1 ⟨rfl, m, rfl⟩)
      | (go_at_call 40; refine ((unhide HA).among _ (by exact unhide HSC)).mono ?_; rintro e w1 ⟨rfl, rfl⟩)
      | (go_at_call 42; refine ((unhide HA).letter _ _ (by decide) (by exact unhide HSC)).mono ?_; rintro e w1 ⟨rfl, rfl⟩)
      | (go_at_call 39; refine ((unhide HF) _ (by exact unhide HSC)).mono ?_; rintro e w2 ⟨rfl, hg⟩))
  go_ret2
  exact ⟨rfl, gone_dn hg⟩

set_option maxHeartbeats 2000000 in
theorem step_FFT_exF {S : ByteArray → Bool} {A : Bool} {L : Int → Bool} (h : Sc w b t k) (hk : k < t.size) (hs : Small t) (hA : Asks b k t S A L) (h1 : S ⟨#[60, 33, 45, 45]⟩ = false) (h2 : S ⟨#[60, 109, 101, 116, 97]⟩ = false) (h3 : S ⟨#[60]⟩ = false) (h4 : S ⟨#[60, 47]⟩ = true) (h4a : L 2 = false) (h5 : S ⟨#[60, 33]⟩ = false) :
    Calls Tryd.prog 21 #[.pointer (some ⟨b, 0, none⟩)] w fun e w' => e = .returned (.tuple #[.int .i64 0, .bool false]) ∧ Gone w w' b t (behindM [62] t.data.toList k) := by
  obtain ⟨c0, c1, cf⟩ := h.cells
  have cf1 := cf 1
  have hw : IntKind.i64.wrap ((k : Int) + 1) = (k : Int) + 1 := by unfold Small at hs; exact wrap_add k 1 (by omega) (by omega)
  have HA := hide hA
  have HSC := hide h
  have HF : Hid (∀ W, Sc W b t k → Calls Tryd.prog 39 #[.pointer (some ⟨b, 0, none⟩), .string ⟨#[62]⟩] W fun e w' => e = .returned (.tuple #[]) ∧ Gone W w' b t (behindM [62] t.data.toList k)) :=
    hide (fun W hW => findBehind_any hW (Nat.le_of_lt hk) hs ⟨#[62]⟩ (by decide) (by decide))
  generalize behindM [62] t.data.toList k = q at HF ⊢
  clear h hk hs cf hA
  go_enter Tryd.func21, Tryd.ntmps21
  go_wp2_with (first
      | (go_at_call 32; refine ((unhide HA).sees _ _ (by exact unhide HSC) (by decide) (by decide)).mono ?_; rintro e w1 ⟨rfl, m, rfl⟩)
      | (go_at_call 40; refine ((unhide HA).among _ (by exact unhide HSC)).mono ?_; rintro e w1 ⟨rfl, rfl⟩)
      | (go_at_call 42; refine ((unhide HA).letter _ _ (by decide) (by exact unhide HSC)).mono ?_; rintro e w1 ⟨rfl, rfl⟩)
      | (go_at_call 39; refine ((unhide HF) _ (by exact unhide HSC)).mono ?_; rintro e w2 ⟨rfl, hg⟩))
  go_ret2
  exact ⟨rfl, gone_dn hg⟩

set_option maxHeartbeats 2000000 in
theorem step_FTF_exT {S : ByteArray → Bool} {A : Bool} {L : Int → Bool} (h : Sc w b t k) (hk : k < t.size) (hs : Small t) (hA : Asks b k t S A L) (h1 : S ⟨#[60, 33, 45, 45]⟩ = false) (h2 : S ⟨#[60, 109, 101, 116, 97]⟩ = false) (h3 : S ⟨#[60]⟩ = true) (h3a : L 1 = false) (h4 : S ⟨#[60, 47]⟩ = false) (h5 : S ⟨#[60, 33]⟩ = true) :
    Calls Tryd.prog 21 #[.pointer (some ⟨b, 0, none⟩)] w fun e w' => e = .returned (.tuple #[.int .i64 0, .bool false]) ∧ Gone w w' b t (behindM [62] t.data.toList k) := by
  obtain ⟨c0, c1, cf⟩ := h.cells
  have cf1 := cf 1
  have hw : IntKind.i64.wrap ((k : Int) + 1) = (k : Int) + 1 := by unfold Small at hs; exact wrap_add k 1 (by omega) (by omega)
  have HA := hide hA
  have HSC := hide h
  have HF : Hid (∀ W, Sc W b t k → Calls Tryd.prog 39 #[.pointer (some ⟨b, 0, none⟩), .string ⟨#[62]⟩] W fun e w' => e = .returned (.tuple #[]) ∧ Gone W w' b t (behindM [62] t.data.toList k)) :=
    hide (fun W hW => findBehind_any hW (Nat.le_of_lt hk) hs ⟨#[62]⟩ (by decide) (by decide))
  generalize behindM [62] t.data.toList k = q at HF ⊢
  clear h hk hs cf hA
  go_enter Tryd.func21, Tryd.ntmps21
  go_wp2_with (first
      | (go_at_call 32; refine ((unhide HA).sees _ _ (by exact unhide HSC) (by decide) (by decide)).mono ?_; rintro e w1 ⟨rfl, m, rfl⟩)
      | (go_at_call 40; refine ((unhide HA).among _ (by exact unhide HSC)).mono ?_; rintro e w1 ⟨rfl, rfl⟩)
      | (go_at_call 42; refine ((unhide HA).letter _ _ (by decide) (by exact unhide HSC)).mono ?_; rintro e w1 ⟨rfl, rfl⟩)
      | (go_at_call 39; refine ((unhide HF) _ (by exact unhide HSC)).mono ?_; rintro e w2 ⟨rfl, hg⟩))
  go_ret2
  exact ⟨rfl, gone_dn hg⟩

set_option maxHeartbeats 2000000 in
theorem step_FTF_quT {S : ByteArray → Bool} {A : Bool} {L : Int → Bool} (h : Sc w b t k) (hk : k < t.size) (hs : Small t) (hA : Asks b k t S A L) (h1 : S ⟨#[60, 33, 45, 45]⟩ = false) (h2 : S ⟨#[60, 109, 101, 116, 97]⟩ = false) (h3 : S ⟨#[60]⟩ = true) (h3a : L 1 = false) (h4 : S ⟨#[60, 47]⟩ = false) (h5 : S ⟨#[60, 33]⟩ = false) (h6 : S ⟨#[60, 63]⟩ = true) :
    Calls Tryd.prog 21 #[.pointer (some ⟨b, 0, none⟩)] w fun e w' => e = .returned (.tuple #[.int .i64 0, .bool false]) ∧ Gone w w' b t (behindM [62] t.data.toList k) := by
  obtain ⟨c0, c1, cf⟩ := h.cells
  have cf1 := cf 1
  have hw : IntKind.i64.wrap ((k : Int) + 1) = (k : Int) + 1 := by unfold Small at hs; exact wrap_add k 1 (by omega) (by omega)
  have HA := hide hA
  have HSC := hide h
  have HF : Hid (∀ W, Sc W b t k → Calls Tryd.prog 39 #[.pointer (some ⟨b, 0, none⟩), .string ⟨#[62]⟩] W fun e w' => e = .returned (.tuple #[]) ∧ Gone W w' b t (behindM [62] t.data.toList k)) :=
    hide (fun W hW => findBehind_any hW (Nat.le_of_lt hk) hs ⟨#[62]⟩ (by decide) (by decide))
  generalize behindM [62] t.data.toList k = q at HF ⊢
  clear h hk hs cf hA
  go_enter Tryd.func21, Tryd.ntmps21
  go_wp2_with (first
      | (go_at_call 32; refine ((unhide HA).sees _ _ (by exact unhide HSC) (by decide) (by decide)).mono ?_; rintro e w1 ⟨rfl, m, rfl⟩)
      | (go_at_call 40; refine ((unhide HA).among _ (by exact unhide HSC)).mono ?_; rintro e w1 ⟨rfl, rfl⟩)
      | (go_at_call 42; refine ((unhide HA).letter _ _ (by decide) (by exact unhide HSC)).mono ?_; rintro e w1 ⟨rfl, rfl⟩)
      | (go_at_call 39; refine ((unhide HF) _ (by exact unhide HSC)).mono ?_; rintro e w2 ⟨rfl, hg⟩))
  go_ret2
  exact ⟨rfl, gone_dn hg⟩

set_option maxHeartbeats 2000000 in
theorem step_FTF_quF {S : ByteArray → Bool} {A : Bool} {L : Int → Bool} (h : Sc w b t k) (hk : k < t.size) (hs : Small t) (hA : Asks b k t S A L) (h1 : S ⟨#[60, 33, 45, 45]⟩ = false) (h2 : S ⟨#[60, 109, 101, 116, 97]⟩ = false) (h3 : S ⟨#[60]⟩ = true) (h3a : L 1 = false) (h4 : S ⟨#[60, 47]⟩ = false) (h5 : S ⟨#[60, 33]⟩ = false) (h6 : S ⟨#[60, 63]⟩ = false) :
    Calls Tryd.prog 21 #[.pointer (some ⟨b, 0, none⟩)] w fun e w' => e = .returned (.tuple #[.int .i64 0, .bool false]) ∧ Gone w w' b t (k + 1) := by
  obtain ⟨c0, c1, cf⟩ := h.cells
  have cf1 := cf 1
  have hw : IntKind.i64.wrap ((k : Int) + 1) = (k : Int) + 1 := by unfold Small at hs; exact wrap_add k 1 (by omega) (by omega)
  have HA := hide hA
  have HSC := hide h
  clear h hk hs cf hA
  go_enter Tryd.func21, Tryd.ntmps21
  go_wp2_with (first
      | (go_at_call 32; refine ((unhide HA).sees _ _ (by exact unhide HSC) (by decide) (by decide)).mono ?_; rintro e w1 ⟨rfl, m, rfl⟩)
      | (go_at_call 40; refine ((unhide HA).among _ (by exact unhide HSC)).mono ?_; rintro e w1 ⟨rfl, rfl⟩)
      | (go_at_call 42; refine ((unhide HA).letter _ _ (by decide) (by exact unhide HSC)).mono ?_; rintro e w1 ⟨rfl, rfl⟩)
      )
  go_ret2
  exact ⟨rfl, gone_set (m := _) (v := .int .i64 ((k : Int) + 1)) ⟨(unhide HSC).set (k + 1), Mod.refl _ _⟩⟩

set_option maxHeartbeats 2000000 in
theorem step_FTT_exT {S : ByteArray → Bool} {A : Bool} {L : Int → Bool} (h : Sc w b t k) (hk : k < t.size) (hs : Small t) (hA : Asks b k t S A L) (h1 : S ⟨#[60, 33, 45, 45]⟩ = false) (h2 : S ⟨#[60, 109, 101, 116, 97]⟩ = false) (h3 : S ⟨#[60]⟩ = true) (h3a : L 1 = false) (h4 : S ⟨#[60, 47]⟩ = true) (h4a : L 2 = false) (h5 : S ⟨#[60, 33]⟩ = true) :
    Calls Tryd.prog 21 #[.pointer (some ⟨b, 0, none⟩)] w fun e w' => e = .returned (.tuple #[.int .i64 0, .bool false]) ∧ Gone w w' b t (behindM [62] t.data.toList k) := by
  obtain ⟨c0, c1, cf⟩ := h.cells
  have cf1 := cf 1
  have hw : IntKind.i64.wrap ((k : Int) + 1) = (k : Int) + 1 := by unfold Small at hs; exact wrap_add k 1 (by omega) (by omega)
  have HA := hide hA
  have HSC := hide h
  have HF : Hid (∀ W, Sc W b t k → Calls Tryd.prog 39 #[.pointer (some ⟨b, 0, none⟩), .string ⟨#[62]⟩] W fun e w' => e = .returned (.tuple #[]) ∧ Gone W w' b t (behindM [62] t.data.toList k)) :=
    hide (fun W hW => findBehind_any hW (Nat.le_of_lt hk) hs ⟨#[62]⟩ (by decide) (by decide))
  generalize behindM [62] t.data.toList k = q at HF ⊢
  clear h hk hs cf hA
  go_enter Tryd.func21, Tryd.ntmps21
  go_wp2_with (first
      | (go_at_call 32; refine ((unhide HA).sees _ _ (by exact unhide HSC) (by decide) (by decide)).mono ?_; rintro e w1 ⟨rfl, m, rfl⟩)
      | (go_at_call 40; refine ((unhide HA).among _ (by exact unhide HSC)).mono ?_; rintro e w1 ⟨rfl, rfl⟩)
      | (go_at_call 42; refine ((unhide HA).letter _ _ (by decide) (by exact unhide HSC)).mono ?_; rintro e w1 ⟨rfl, rfl⟩)
      | (go_at_call 39; refine ((unhide HF) _ (by exact unhide HSC)).mono ?_; rintro e w2 ⟨rfl, hg⟩))
  go_ret2
  exact ⟨rfl, gone_dn hg⟩

set_option maxHeartbeats 2000000 in
theorem step_FTT_exF {S : ByteArray → Bool} {A : Bool} {L : Int → Bool} (h : Sc w b t k) (hk : k < t.size) (hs : Small t) (hA : Asks b k t S A L) (h1 : S ⟨#[60, 33, 45, 45]⟩ = false) (h2 : S ⟨#[60, 109, 101, 116, 97]⟩ = false) (h3 : S ⟨#[60]⟩ = true) (h3a : L 1 = false) (h4 : S ⟨#[60, 47]⟩ = true) (h4a : L 2 = false) (h5 : S ⟨#[60, 33]⟩ = false) :
    Calls Tryd.prog 21 #[.pointer (some ⟨b, 0, none⟩)] w fun e w' => e = .returned (.tuple #[.int .i64 0, .bool false]) ∧ Gone w w' b t (behindM [62] t.data.toList k) := by
  obtain ⟨c0, c1, cf⟩ := h.cells
  have cf1 := cf 1
  have hw : IntKind.i64.wrap ((k : Int) + 1) = (k : Int) + 1 := by unfold Small at hs; exact wrap_add k 1 (by omega) (by omega)
  have HA := hide hA
  have HSC := hide h
  have HF : Hid (∀ W, Sc W b t k → Calls Tryd.prog 39 #[.pointer (some ⟨b, 0, none⟩), .string ⟨#[62]⟩] W fun e w' => e = .returned (.tuple #[]) ∧ Gone W w' b t (behindM [62] t.data.toList k)) :=
    hide (fun W hW => findBehind_any hW (Nat.le_of_lt hk) hs ⟨#[62]⟩ (by decide) (by decide))
  generalize behindM [62] t.data.toList k = q at HF ⊢
  clear h hk hs cf hA
  go_enter Tryd.func21, Tryd.ntmps21
  go_wp2_with (first
      | (go_at_call 32; refine ((unhide HA).sees _ _ (by exact unhide HSC) (by decide) (by decide)).mono ?_; rintro e w1 ⟨rfl, m, rfl⟩)
      | (go_at_call 40; refine ((unhide HA).among _ (by exact unhide HSC)).mono ?_; rintro e w1 ⟨rfl, rfl⟩)
      | (go_at_call 42; refine ((unhide HA).letter _ _ (by decide) (by exact unhide HSC)).mono ?_; rintro e w1 ⟨rfl, rfl⟩)
      | (go_at_call 39; refine ((unhide HF) _ (by exact unhide HSC)).mono ?_; rintro e w2 ⟨rfl, hg⟩))
  go_ret2
  exact ⟨rfl, gone_dn hg⟩

set_option maxHeartbeats 2000000 in
theorem step_TFF_exT {S : ByteArray → Bool} {A : Bool} {L : Int → Bool} (h : Sc w b t k) (hk : k < t.size) (hs : Small t) (hA : Asks b k t S A L) (h1 : S ⟨#[60, 33, 45, 45]⟩ = false) (h2 : S ⟨#[60, 109, 101, 116, 97]⟩ = true) (h2a : A = false) (h3 : S ⟨#[60]⟩ = false) (h4 : S ⟨#[60, 47]⟩ = false) (h5 : S ⟨#[60, 33]⟩ = true) :
    Calls Tryd.prog 21 #[.pointer (some ⟨b, 0, none⟩)] w fun e w' => e = .returned (.tuple #[.int .i64 0, .bool false]) ∧ Gone w w' b t (behindM [62] t.data.toList k) := by
  obtain ⟨c0, c1, cf⟩ := h.cells
  have cf1 := cf 1
  have hw : IntKind.i64.wrap ((k : Int) + 1) = (k : Int) + 1 := by unfold Small at hs; exact wrap_add k 1 (by omega) (by omega)
  have HA := hide hA
  have HSC := hide h
  have HF : Hid (∀ W, Sc W b t k → Calls Tryd.prog 39 #[.pointer (some ⟨b, 0, none⟩), .string ⟨#[62]⟩] W fun e w' => e = .returned (.tuple #[]) ∧ Gone W w' b t (behindM [62] t.data.toList k)) :=
    hide (fun W hW => findBehind_any hW (Nat.le_of_lt hk) hs ⟨#[62]⟩ (by decide) (by decide))
  generalize behindM [62] t.data.toList k = q at HF ⊢
  clear h hk hs cf hA
  go_enter Tryd.func21, Tryd.ntmps21
  go_wp2_with (first
      | (go_at_call 32; refine ((unhide HA).sees _ _ (by exact unhide HSC) (by decide) (by decide)).mono ?_; rintro e w1 ⟨rfl, m, rfl⟩)
      | (go_at_call 40; refine ((unhide HA).among _ (by exact unhide HSC)).mono ?_; rintro e w1 ⟨rfl, rfl⟩)
      | (go_at_call 42; refine ((unhide HA).letter _ _ (by decide) (by exact unhide HSC)).mono ?_; rintro e w1 ⟨rfl, rfl⟩)
      | (go_at_call 39; refine ((unhide HF) _ (by exact unhide HSC)).mono ?_; rintro e w2 ⟨rfl, hg⟩))
  go_ret2
  exact ⟨rfl, gone_dn hg⟩

set_option maxHeartbeats 2000000 in
theorem step_TFF_quT {S : ByteArray → Bool} {A : Bool} {L : Int → Bool} (h : Sc w b t k) (hk : k < t.size) (hs : Small t) (hA : Asks b k t S A L) (h1 : S ⟨#[60, 33, 45, 45]⟩ = false) (h2 : S ⟨#[60, 109, 101, 116, 97]⟩ = true) (h2a : A = false) (h3 : S ⟨#[60]⟩ = false) (h4 : S ⟨#[60, 47]⟩ = false) (h5 : S ⟨#[60, 33]⟩ = false) (h6 : S ⟨#[60, 63]⟩ = true) :
    Calls Tryd.prog 21 #[.pointer (some ⟨b, 0, none⟩)] w fun e w' => e = .returned (.tuple #[.int .i64 0, .bool false]) ∧ Gone w w' b t (behindM [62] t.data.toList k) := by
  obtain ⟨c0, c1, cf⟩ := h.cells
  have cf1 := cf 1
  have hw : IntKind.i64.wrap ((k : Int) + 1) = (k : Int) + 1 := by unfold Small at hs; exact wrap_add k 1 (by omega) (by omega)
  have HA := hide hA
  have HSC := hide h
  have HF : Hid (∀ W, Sc W b t k → Calls Tryd.prog 39 #[.pointer (some ⟨b, 0, none⟩), .string ⟨#[62]⟩] W fun e w' => e = .returned (.tuple #[]) ∧ Gone W w' b t (behindM [62] t.data.toList k)) :=
    hide (fun W hW => findBehind_any hW (Nat.le_of_lt hk) hs ⟨#[62]⟩ (by decide) (by decide))
  generalize behindM [62] t.data.toList k = q at HF ⊢
  clear h hk hs cf hA
  go_enter Tryd.func21, Tryd.ntmps21
  go_wp2_with (first
      | (go_at_call 32; refine ((unhide HA).sees _ _ (by exact unhide HSC) (by decide) (by decide)).mono ?_; rintro e w1 ⟨rfl, m, rfl⟩)
      | (go_at_call 40; refine ((unhide HA).among _ (by exact unhide HSC)).mono ?_; rintro e w1 ⟨rfl, rfl⟩)
      | (go_at_call 42; refine ((unhide HA).letter _ _ (by decide) (by exact unhide HSC)).mono ?_; rintro e w1 ⟨rfl, rfl⟩)
      | (go_at_call 39; refine ((unhide HF) _ (by exact unhide HSC)).mono ?_; rintro e w2 ⟨rfl, hg⟩))
  go_ret2
  exact ⟨rfl, gone_dn hg⟩

set_option maxHeartbeats 2000000 in
theorem step_TFF_quF {S : ByteArray → Bool} {A : Bool} {L : Int → Bool} (h : Sc w b t k) (hk : k < t.size) (hs : Small t) (hA : Asks b k t S A L) (h1 : S ⟨#[60, 33, 45, 45]⟩ = false) (h2 : S ⟨#[60, 109, 101, 116, 97]⟩ = true) (h2a : A = false) (h3 : S ⟨#[60]⟩ = false) (h4 : S ⟨#[60, 47]⟩ = false) (h5 : S ⟨#[60, 33]⟩ = false) (h6 : S ⟨#[60, 63]⟩ = false) :
    Calls Tryd.prog 21 #[.pointer (some ⟨b, 0, none⟩)] w fun e w' => e = .returned (.tuple #[.int .i64 0, .bool false]) ∧ Gone w w' b t (k + 1) := by
  obtain ⟨c0, c1, cf⟩ := h.cells
  have cf1 := cf 1
  have hw : IntKind.i64.wrap ((k : Int) + 1) = (k : Int) + 1 := by unfold Small at hs; exact wrap_add k 1 (by omega) (by omega)
  have HA := hide hA
  have HSC := hide h
  clear h hk hs cf hA
  go_enter Tryd.func21, Tryd.ntmps21
  go_wp2_with (first
      | (go_at_call 32; refine ((unhide HA).sees _ _ (by exact unhide HSC) (by decide) (by decide)).mono ?_; rintro e w1 ⟨rfl, m, rfl⟩)
      | (go_at_call 40; refine ((unhide HA).among _ (by exact unhide HSC)).mono ?_; rintro e w1 ⟨rfl, rfl⟩)
      | (go_at_call 42; refine ((unhide HA).letter _ _ (by decide) (by exact unhide HSC)).mono ?_; rintro e w1 ⟨rfl, rfl⟩)
      )
  go_ret2
  exact ⟨rfl, gone_set (m := _) (v := .int .i64 ((k : Int) + 1)) ⟨(unhide HSC).set (k + 1), Mod.refl _ _⟩⟩

set_option maxHeartbeats 2000000 in
theorem step_TFT_exT {S : ByteArray → Bool} {A : Bool} {L : Int → Bool} (h : Sc w b t k) (hk : k < t.size) (hs : Small t) (hA : Asks b k t S A L) (h1 : S ⟨#[60, 33, 45, 45]⟩ = false) (h2 : S ⟨#[60, 109, 101, 116, 97]⟩ = true) (h2a : A = false) (h3 : S ⟨#[60]⟩ = false) (h4 : S ⟨#[60, 47]⟩ = true) (h4a : L 2 = false) (h5 : S ⟨#[60, 33]⟩ = true) :
    Calls Tryd.prog 21 #[.pointer (some ⟨b, 0, none⟩)] w fun e w' => e = .returned (.tuple #[.int .i64 0, .bool false]) ∧ Gone w w' b t (behindM [62] t.data.toList k) := by
  obtain ⟨c0, c1, cf⟩ := h.cells
  have cf1 := cf 1
  have hw : IntKind.i64.wrap ((k : Int) + 1) = (k : Int) + 1 := by unfold Small at hs; exact wrap_add k 1 (by omega) (by omega)
  have HA := hide hA
  have HSC := hide h
  have HF : Hid (∀ W, Sc W b t k → Calls Tryd.prog 39 #[.pointer (some ⟨b, 0, none⟩), .string ⟨#[62]⟩] W fun e w' => e = .returned (.tuple #[]) ∧ Gone W w' b t (behindM [62] t.data.toList k)) :=
    hide (fun W hW => findBehind_any hW (Nat.le_of_lt hk) hs ⟨#[62]⟩ (by decide) (by decide))
  generalize behindM [62] t.data.toList k = q at HF ⊢
  clear h hk hs cf hA
  go_enter Tryd.func21, Tryd.ntmps21
  go_wp2_with (first
      | (go_at_call 32; refine ((unhide HA).sees _ _ (by exact unhide HSC) (by decide) (by decide)).mono ?_; rintro e w1 ⟨rfl, m, rfl⟩)
      | (go_at_call 40; refine ((unhide HA).among _ (by exact unhide HSC)).mono ?_; rintro e w1 ⟨rfl, rfl⟩)
      | (go_at_call 42; refine ((unhide HA).letter _ _ (by decide) (by exact unhide HSC)).mono ?_; rintro e w1 ⟨rfl, rfl⟩)
      | (go_at_call 39; refine ((unhide HF) _ (by exact unhide HSC)).mono ?_; rintro e w2 ⟨rfl, hg⟩))
  go_ret2
  exact ⟨rfl, gone_dn hg⟩

set_option maxHeartbeats 2000000 in
theorem step_TFT_exF {S : ByteArray → Bool} {A : Bool} {L : Int → Bool} (h : Sc w b t k) (hk : k < t.size) (hs : Small t) (hA : Asks b k t S A L) (h1 : S ⟨#[60, 33, 45, 45]⟩ = false) (h2 : S ⟨#[60, 109, 101, 116, 97]⟩ = true) (h2a : A = false) (h3 : S ⟨#[60]⟩ = false) (h4 : S ⟨#[60, 47]⟩ = true) (h4a : L 2 = false) (h5 : S ⟨#[60, 33]⟩ = false) :
    Calls Tryd.prog 21 #[.pointer (some ⟨b, 0, none⟩)] w fun e w' => e = .returned (.tuple #[.int .i64 0, .bool false]) ∧ Gone w w' b t (behindM [62] t.data.toList k) := by
  obtain ⟨c0, c1, cf⟩ := h.cells
  have cf1 := cf 1
  have hw : IntKind.i64.wrap ((k : Int) + 1) = (k : Int) + 1 := by unfold Small at hs; exact wrap_add k 1 (by omega) (by omega)
  have HA := hide hA
  have HSC := hide h
  have HF : Hid (∀ W, Sc W b t k → Calls Tryd.prog 39 #[.pointer (some ⟨b, 0, none⟩), .string ⟨#[62]⟩] W fun e w' => e = .returned (.tuple #[]) ∧ Gone W w' b t (behindM [62] t.data.toList k)) :=
    hide (fun W hW => findBehind_any hW (Nat.le_of_lt hk) hs ⟨#[62]⟩ (by decide) (by decide))
  generalize behindM [62] t.data.toList k = q at HF ⊢
  clear h hk hs cf hA
  go_enter Tryd.func21, Tryd.ntmps21
  go_wp2_with (first
      | (go_at_call 32; refine ((unhide HA).sees _ _ (by exact unhide HSC) (by decide) (by decide)).mono ?_; rintro e w1 ⟨rfl, m, rfl⟩)
      | (go_at_call 40; refine ((unhide HA).among _ (by exact unhide HSC)).mono ?_; rintro e w1 ⟨rfl, rfl⟩)
      | (go_at_call 42; refine ((unhide HA).letter _ _ (by decide) (by exact unhide HSC)).mono ?_; rintro e w1 ⟨rfl, rfl⟩)
      | (go_at_call 39; refine ((unhide HF) _ (by exact unhide HSC)).mono ?_; rintro e w2 ⟨rfl, hg⟩))
  go_ret2
  exact ⟨rfl, gone_dn hg⟩

set_option maxHeartbeats 2000000 in
theorem step_TTF_exT {S : ByteArray → Bool} {A : Bool} {L : Int → Bool} (h : Sc w b t k) (hk : k < t.size) (hs : Small t) (hA : Asks b k t S A L) (h1 : S ⟨#[60, 33, 45, 45]⟩ = false) (h2 : S ⟨#[60, 109, 101, 116, 97]⟩ = true) (h2a : A = false) (h3 : S ⟨#[60]⟩ = true) (h3a : L 1 = false) (h4 : S ⟨#[60, 47]⟩ = false) (h5 : S ⟨#[60, 33]⟩ = true) :
    Calls Tryd.prog 21 #[.pointer (some ⟨b, 0, none⟩)] w fun e w' => e = .returned (.tuple #[.int .i64 0, .bool false]) ∧ Gone w w' b t (behindM [62] t.data.toList k) := by
  obtain ⟨c0, c1, cf⟩ := h.cells
  have cf1 := cf 1
  have hw : IntKind.i64.wrap ((k : Int) + 1) = (k : Int) + 1 := by unfold Small at hs; exact wrap_add k 1 (by omega) (by omega)
  have HA := hide hA
  have HSC := hide h
  have HF : Hid (∀ W, Sc W b t k → Calls Tryd.prog 39 #[.pointer (some ⟨b, 0, none⟩), .string ⟨#[62]⟩] W fun e w' => e = .returned (.tuple #[]) ∧ Gone W w' b t (behindM [62] t.data.toList k)) :=
    hide (fun W hW => findBehind_any hW (Nat.le_of_lt hk) hs ⟨#[62]⟩ (by decide) (by decide))
  generalize behindM [62] t.data.toList k = q at HF ⊢
  clear h hk hs cf hA
  go_enter Tryd.func21, Tryd.ntmps21
  go_wp2_with (first
      | (go_at_call 32; refine ((unhide HA).sees _ _ (by exact unhide HSC) (by decide) (by decide)).mono ?_; rintro e w1 ⟨rfl, m, rfl⟩)
      | (go_at_call 40; refine ((unhide HA).among _ (by exact unhide HSC)).mono ?_; rintro e w1 ⟨rfl, rfl⟩)
      | (go_at_call 42; refine ((unhide HA).letter _ _ (by decide) (by exact unhide HSC)).mono ?_; rintro e w1 ⟨rfl, rfl⟩)
      | (go_at_call 39; refine ((unhide HF) _ (by exact unhide HSC)).mono ?_; rintro e w2 ⟨rfl, hg⟩))
  go_ret2
  exact ⟨rfl, gone_dn hg⟩

set_option maxHeartbeats 2000000 in
theorem step_TTF_quT {S : ByteArray → Bool} {A : Bool} {L : Int → Bool} (h : Sc w b t k) (hk : k < t.size) (hs : Small t) (hA : Asks b k t S A L) (h1 : S ⟨#[60, 33, 45, 45]⟩ = false) (h2 : S ⟨#[60, 109, 101, 116, 97]⟩ = true) (h2a : A = false) (h3 : S ⟨#[60]⟩ = true) (h3a : L 1 = false) (h4 : S ⟨#[60, 47]⟩ = false) (h5 : S ⟨#[60, 33]⟩ = false) (h6 : S ⟨#[60, 63]⟩ = true) :
    Calls Tryd.prog 21 #[.pointer (some ⟨b, 0, none⟩)] w fun e w' => e = .returned (.tuple #[.int .i64 0, .bool false]) ∧ Gone w w' b t (behindM [62] t.data.toList k) := by
  obtain ⟨c0, c1, cf⟩ := h.cells
  have cf1 := cf 1
  have hw : IntKind.i64.wrap ((k : Int) + 1) = (k : Int) + 1 := by unfold Small at hs; exact wrap_add k 1 (by omega) (by omega)
  have HA := hide hA
  have HSC := hide h
  have HF : Hid (∀ W, Sc W b t k → Calls Tryd.prog 39 #[.pointer (some ⟨b, 0, none⟩), .string ⟨#[62]⟩] W fun e w' => e = .returned (.tuple #[]) ∧ Gone W w' b t (behindM [62] t.data.toList k)) :=
    hide (fun W hW => findBehind_any hW (Nat.le_of_lt hk) hs ⟨#[62]⟩ (by decide) (by decide))
  generalize behindM [62] t.data.toList k = q at HF ⊢
  clear h hk hs cf hA
  go_enter Tryd.func21, Tryd.ntmps21
  go_wp2_with (first
      | (go_at_call 32; refine ((unhide HA).sees _ _ (by exact unhide HSC) (by decide) (by decide)).mono ?_; rintro e w1 ⟨rfl, m, rfl⟩)
      | (go_at_call 40; refine ((unhide HA).among _ (by exact unhide HSC)).mono ?_; rintro e w1 ⟨rfl, rfl⟩)
      | (go_at_call 42; refine ((unhide HA).letter _ _ (by decide) (by exact unhide HSC)).mono ?_; rintro e w1 ⟨rfl, rfl⟩)
      | (go_at_call 39; refine ((unhide HF) _ (by exact unhide HSC)).mono ?_; rintro e w2 ⟨rfl, hg⟩))
  go_ret2
  exact ⟨rfl, gone_dn hg⟩

set_option maxHeartbeats 2000000 in
theorem step_TTF_quF {S : ByteArray → Bool} {A : Bool} {L : Int → Bool} (h : Sc w b t k) (hk : k < t.size) (hs : Small t) (hA : Asks b k t S A L) (h1 : S ⟨#[60, 33, 45, 45]⟩ = false) (h2 : S ⟨#[60, 109, 101, 116, 97]⟩ = true) (h2a : A = false) (h3 : S ⟨#[60]⟩ = true) (h3a : L 1 = false) (h4 : S ⟨#[60, 47]⟩ = false) (h5 : S ⟨#[60, 33]⟩ = false) (h6 : S ⟨#[60, 63]⟩ = false) :
    Calls Tryd.prog 21 #[.pointer (some ⟨b, 0, none⟩)] w fun e w' => e = .returned (.tuple #[.int .i64 0, .bool false]) ∧ Gone w w' b t (k + 1) := by
  obtain ⟨c0, c1, cf⟩ := h.cells
  have cf1 := cf 1
  have hw : IntKind.i64.wrap ((k : Int) + 1) = (k : Int) + 1 := by unfold Small at hs; exact wrap_add k 1 (by omega) (by omega)
  have HA := hide hA
  have HSC := hide h
  clear h hk hs cf hA
  go_enter Tryd.func21, Tryd.ntmps21
  go_wp2_with (first
      | (go_at_call 32; refine ((unhide HA).sees _ _ (by exact unhide HSC) (by decide) (by decide)).mono ?_; rintro e w1 ⟨rfl, m, rfl⟩)
      | (go_at_call 40; refine ((unhide HA).among _ (by exact unhide HSC)).mono ?_; rintro e w1 ⟨rfl, rfl⟩)
      | (go_at_call 42; refine ((unhide HA).letter _ _ (by decide) (by exact unhide HSC)).mono ?_; rintro e w1 ⟨rfl, rfl⟩)
      )
  go_ret2
  exact ⟨rfl, gone_set (m := _) (v := .int .i64 ((k : Int) + 1)) ⟨(unhide HSC).set (k + 1), Mod.refl _ _⟩⟩

set_option maxHeartbeats 2000000 in
theorem step_TTT_exT {S : ByteArray → Bool} {A : Bool} {L : Int → Bool} (h : Sc w b t k) (hk : k < t.size) (hs : Small t) (hA : Asks b k t S A L) (h1 : S ⟨#[60, 33, 45, 45]⟩ = false) (h2 : S ⟨#[60, 109, 101, 116, 97]⟩ = true) (h2a : A = false) (h3 : S ⟨#[60]⟩ = true) (h3a : L 1 = false) (h4 : S ⟨#[60, 47]⟩ = true) (h4a : L 2 = false) (h5 : S ⟨#[60, 33]⟩ = true) :
    Calls Tryd.prog 21 #[.pointer (some ⟨b, 0, none⟩)] w fun e w' => e = .returned (.tuple #[.int .i64 0, .bool false]) ∧ Gone w w' b t (behindM [62] t.data.toList k) := by
  obtain ⟨c0, c1, cf⟩ := h.cells
  have cf1 := cf 1
  have hw : IntKind.i64.wrap ((k : Int) + 1) = (k : Int) + 1 := by unfold Small at hs; exact wrap_add k 1 (by omega) (by omega)
  have HA := hide hA
  have HSC := hide h
  have HF : Hid (∀ W, Sc W b t k → Calls Tryd.prog 39 #[.pointer (some ⟨b, 0, none⟩), .string ⟨#[62]⟩] W fun e w' => e = .returned (.tuple #[]) ∧ Gone W w' b t (behindM [62] t.data.toList k)) :=
    hide (fun W hW => findBehind_any hW (Nat.le_of_lt hk) hs ⟨#[62]⟩ (by decide) (by decide))
  generalize behindM [62] t.data.toList k = q at HF ⊢
  clear h hk hs cf hA
  go_enter Tryd.func21, Tryd.ntmps21
  go_wp2_with (first
      | (go_at_call 32; refine ((unhide HA).sees _ _ (by exact unhide HSC) (by decide) (by decide)).mono ?_; rintro e w1 ⟨rfl, m, rfl⟩)
      | (go_at_call 40; refine ((unhide HA).among _ (by exact unhide HSC)).mono ?_; rintro e w1 ⟨rfl, rfl⟩)
      | (go_at_call 42; refine ((unhide HA).letter _ _ (by decide) (by exact unhide HSC)).mono ?_; rintro e w1 ⟨rfl, rfl⟩)
      | (go_at_call 39; refine ((unhide HF) _ (by exact unhide HSC)).mono ?_; rintro e w2 ⟨rfl, hg⟩))
  go_ret2
  exact ⟨rfl, gone_dn hg⟩

set_option maxHeartbeats 2000000 in
theorem step_TTT_exF {S : ByteArray → Bool} {A : Bool} {L : Int → Bool} (h : Sc w b t k) (hk : k < t.size) (hs : Small t) (hA : Asks b k t S A L) (h1 : S ⟨#[60, 33, 45, 45]⟩ = false) (h2 : S ⟨#[60, 109, 101, 116, 97]⟩ = true) (h2a : A = false) (h3 : S ⟨#[60]⟩ = true) (h3a : L 1 = false) (h4 : S ⟨#[60, 47]⟩ = true) (h4a : L 2 = false) (h5 : S ⟨#[60, 33]⟩ = false) :
    Calls Tryd.prog 21 #[.pointer (some ⟨b, 0, none⟩)] w fun e w' => e = .returned (.tuple #[.int .i64 0, .bool false]) ∧ Gone w w' b t (behindM [62] t.data.toList k) := by
  obtain ⟨c0, c1, cf⟩ := h.cells
  have cf1 := cf 1
  have hw : IntKind.i64.wrap ((k : Int) + 1) = (k : Int) + 1 := by unfold Small at hs; exact wrap_add k 1 (by omega) (by omega)
  have HA := hide hA
  have HSC := hide h
  have HF : Hid (∀ W, Sc W b t k → Calls Tryd.prog 39 #[.pointer (some ⟨b, 0, none⟩), .string ⟨#[62]⟩] W fun e w' => e = .returned (.tuple #[]) ∧ Gone W w' b t (behindM [62] t.data.toList k)) :=
    hide (fun W hW => findBehind_any hW (Nat.le_of_lt hk) hs ⟨#[62]⟩ (by decide) (by decide))
  generalize behindM [62] t.data.toList k = q at HF ⊢
  clear h hk hs cf hA
  go_enter Tryd.func21, Tryd.ntmps21
  go_wp2_with (first
      | (go_at_call 32; refine ((unhide HA).sees _ _ (by exact unhide HSC) (by decide) (by decide)).mono ?_; rintro e w1 ⟨rfl, m, rfl⟩)
      | (go_at_call 40; refine ((unhide HA).among _ (by exact unhide HSC)).mono ?_; rintro e w1 ⟨rfl, rfl⟩)
      | (go_at_call 42; refine ((unhide HA).letter _ _ (by decide) (by exact unhide HSC)).mono ?_; rintro e w1 ⟨rfl, rfl⟩)
      | (go_at_call 39; refine ((unhide HF) _ (by exact unhide HSC)).mono ?_; rintro e w2 ⟨rfl, hg⟩))
  go_ret2
  exact ⟨rfl, gone_dn hg⟩
end
end Go.Proofs.YtmikcdmlhocgbaaDoor
