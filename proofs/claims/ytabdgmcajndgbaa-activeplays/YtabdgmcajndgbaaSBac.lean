/-
  A list that nobody made: every call. Attributes in one order: the order is whole, and two lists of attributes hold the same ones if they are the same list when brought into it, each once. No program is named here.
-/
import Derived.Test.YtabdgmcajndgbaaSBab
import Derived.Test.YtabdgmcajndgbaaSBaa
import Derived.Shelf.SlSortCmp.WholeK
import Derived.Sort.Walk0
namespace Go.Proofs.Ytabdgmcajndgbaa
open Go.RowKit

theorem below_new (w : World) (o : Obj) : Below w.heap.size w (w.alloc o) := (Below.refl _ w).alloc (Nat.le_refl _) _
theorem below_box {w w1 : World} {o : Obj} (hb : Below (w.alloc o).heap.size (w.alloc o) w1) : Below w.heap.size w w1 := (below_new w o).trans (hb.mono (by simp))
theorem below_two (w : World) (o o2 : Obj) : Below w.heap.size w ((w.alloc o).alloc o2) := ((Below.refl _ w).alloc (Nat.le_refl _) _).alloc (by simp) _
theorem below_trans {w w1 w2 : World} (h : Below w.heap.size w w1) (k : Below w1.heap.size w1 w2) : Below w.heap.size w w2 := h.trans (k.mono h.size)

/-- A result that lies in a block of its own: one cell; a struct; a struct and a plain one. -/
theorem ret_one {fn : Func} {p : Tmp} {ty : TypeId} (h : fn.results = #[.cell p ty]) (tmps : Array Value) (w : World) (g : Nat) (v : Value) (hp : tmps.getD p undef = .pointer (some ⟨g, 0, none⟩))
    (hl : (loadVar ty ⟨g, 0, none⟩).run Try.prog w = .ok v w) : (results fn tmps).run Try.prog w = .ok v w := by
  have hp' : tmps[p]?.getD undef = .pointer (some ⟨g, 0, none⟩) := by simpa using hp
  simp [results, h, hp', asAddr, hl]
theorem ret_two {fn : Func} {p u : Tmp} {ty : TypeId} (h : fn.results = #[.cell p ty, .tmp u]) (tmps : Array Value) (w : World) (g : Nat) (v x : Value)
    (hp : tmps.getD p undef = .pointer (some ⟨g, 0, none⟩)) (hx : tmps.getD u undef = x) (hl : (loadVar ty ⟨g, 0, none⟩).run Try.prog w = .ok v w) :
    (results fn tmps).run Try.prog w = .ok (.tuple #[v, x]) w := by
  rw [results_cell_tmp h, hp, hx]
  simp [asAddr, hl]
theorem load_int (w : World) (g : Nat) (x : Int) (h : w.cell? ⟨g, 0, none⟩ = some (.int .i64 x)) : (loadVar 3 ⟨g, 0, none⟩).run Try.prog w = .ok (.int .i64 x) w := by
  simp [go_sem, h]

/-- No list, or one that no call made. -/
def DeadL (w : World) (v : Value) : Prop := v = .pointer none ∨ ∃ b, v = .pointer (some ⟨b, 0, none⟩) ∧ w.cell? ⟨b, 1, none⟩ = some (.pointer none)
theorem DeadL.below {w w' : World} {v : Value} (h : DeadL w v) (hb : Below w.heap.size w w') : DeadL w' v := by
  rcases h with h | ⟨b, e, hc⟩
  · exact .inl h
  · exact .inr ⟨b, e, (hb.cell (p := ⟨b, 1, none⟩) (World.block_lt_of_cell? w _ hc)).trans hc⟩

section
variable {w : World} {v : Value}
theorem made_d (h : DeadL w v) : Calls Try.prog 34 #[v] w fun e w' => e = .returned (.bool false) ∧ w = w' := by
  rcases h with rfl | ⟨b, rfl, hc⟩
  · go_enter Try.func34, Try.ntmps34
    go_wp2
    go_ret
    exact ⟨rfl, rfl⟩
  · go_enter Try.func34, Try.ntmps34
    go_wp2
    go_ret
    exact ⟨rfl, rfl⟩

theorem len_d (h : DeadL w v) : Calls Try.prog 8 #[v] w fun e w' => e = .returned (.int .i64 0) ∧ w = w' := by
  have H0 := hide (made_d h)
  clear h
  go_enter Try.func8, Try.ntmps8
  go_wp2_with (go_at_call 34; refine (unhide H0).mono ?_; rintro e w1 ⟨rfl, rfl⟩)
  go_ret
  exact ⟨rfl, rfl⟩
theorem clear_d (h : DeadL w v) : Calls Try.prog 24 #[v] w fun e w' => e = .returned (.int .i64 0) ∧ w = w' := by
  have H0 := hide (made_d h)
  clear h
  go_enter Try.func24, Try.ntmps24
  go_wp2_with (go_at_call 34; refine (unhide H0).mono ?_; rintro e w1 ⟨rfl, rfl⟩)
  go_ret
  exact ⟨rfl, rfl⟩
theorem mark_d (h : DeadL w v) : Calls Try.prog 23 #[v] w fun e w' => e = .returned (.int .i64 7) ∧ w = w' := by
  have H0 := hide (made_d h)
  clear h
  go_enter Try.func23, Try.ntmps23
  go_wp2_with (go_at_call 34; refine (unhide H0).mono ?_; rintro e w1 ⟨rfl, rfl⟩)
  go_ret
  exact ⟨rfl, rfl⟩
theorem remove_d (h : DeadL w v) (id : Int) : Calls Try.prog 28 #[v, .int .i64 id] w fun e w' => e = .returned (.int .i64 7) ∧ w = w' := by
  have H0 := hide (made_d h)
  clear h
  go_enter Try.func28, Try.ntmps28
  go_wp2_with (go_at_call 34; refine (unhide H0).mono ?_; rintro e w1 ⟨rfl, rfl⟩)
  go_ret
  exact ⟨rfl, rfl⟩
theorem find_d (h : DeadL w v) (id : Int) : Calls Try.prog 9 #[v, .int .i64 id] w fun e w' => e = .returned (.int .i64 (-1)) ∧ Below w.heap.size w w' := by
  have H0 := hide (fun w1 hb => made_d (h.below (w' := w1) hb))
  clear h
  go_enter Try.func9, Try.ntmps9
  go_wp2_with (go_at_call 34; refine ((unhide H0) _ (below_two _ _ _)).mono ?_; rintro e w1 ⟨rfl, rfl⟩)
  refine bodyPost_ret (v := .int .i64 (-1)) (ret_one Try.results9 _ _ (w.heap.size + 1) _ rfl (load_int _ _ _ (by simp [go_sem]))) rfl ⟨rfl, ?_⟩
  exact below_two _ _ _
theorem last_d (h : DeadL w v) (s : ByteArray) : Calls Try.prog 26 #[v, .string s] w fun e w' => e = .returned (.int .i64 (-1)) ∧ Below w.heap.size w w' := by
  have H0 := hide (fun w1 hb => made_d (h.below (w' := w1) hb))
  clear h
  go_enter Try.func26, Try.ntmps26
  go_wp2_with (go_at_call 34; refine ((unhide H0) _ (below_two _ _ _)).mono ?_; rintro e w1 ⟨rfl, rfl⟩)
  refine bodyPost_ret (v := .int .i64 (-1)) (ret_one Try.results26 _ _ (w.heap.size + 1) _ rfl (load_int _ _ _ (by simp [go_sem]))) rfl ⟨rfl, ?_⟩
  exact below_two _ _ _
theorem at_d (h : DeadL w v) (i : Int) : Calls Try.prog 11 #[v, .int .i64 i] w fun e w' => e = .returned (.tuple #[.agg #[.int .i64 0, .int .i64 0, .string ⟨#[]⟩, .string ⟨#[]⟩, .string ⟨#[]⟩, .int .i64 0, .bool false, .int .i32 0, .bool false, .slice none 0 0], .int .i64 7]) ∧ Below w.heap.size w w' := by
  have H0 := hide (fun w1 hb => made_d (h.below (w' := w1) hb))
  clear h
  go_enter Try.func11, Try.ntmps11
  go_wp2_with (go_at_call 34; refine ((unhide H0) _ (by first | exact Below.refl _ _ | exact (Below.refl _ w).alloc (Nat.le_refl _) _)).mono ?_; rintro e w1 ⟨rfl, rfl⟩)
  exact bodyPost_ret (ret_two Try.results11 _ _ w.heap.size _ _ rfl rfl (run_loadVar_row _ _ _ _ _ _ _ (heap_alloc_new w _) Try.underlying46 rfl (by kernel_rfl))) rfl ⟨rfl, below_new _ _⟩
theorem mayenter_d (h : DeadL w v) (id : Int) : Calls Try.prog 48 #[v, .int .i64 id] w fun e w' => (∃ x y, e = .returned (.tuple #[.agg #[.int .i64 x, .string y], .int .i64 7])) ∧ Below w.heap.size w w' := by
  have H0 := hide (fun w1 hb => made_d (h.below (w' := w1) hb))
  clear h
  go_enter Try.func48, Try.ntmps48
  go_wp2_with (go_at_call 34; refine ((unhide H0) _ (by first | exact Below.refl _ _ | exact (Below.refl _ w).alloc (Nat.le_refl _) _)).mono ?_; rintro e w1 ⟨rfl, rfl⟩)
  exact bodyPost_ret (ret_two Try.results48 _ _ w.heap.size _ _ rfl rfl (run_loadVar_row _ _ _ _ _ _ _ (heap_alloc_new w _) Try.underlying81 rfl (by kernel_rfl))) rfl ⟨⟨_, _, rfl⟩, below_new _ _⟩
theorem push_d (h : DeadL w v) (id : Int) (tk : Int) (tn td ts : ByteArray) (th : Int) (tq : Bool) (tc : Int) (tf : Bool) (ta : Option Addr) (tl tp : Nat) : Calls Try.prog 20 #[v, .int .i64 id, .agg #[.int .i64 tk, .string tn, .string td, .string ts, .int .i64 th, .bool tq, .int .i32 tc, .bool tf, .slice ta tl tp]] w fun e w' => e = .returned (.int .i64 7) ∧ Below w.heap.size w w' := by
  have H0 := hide (fun w1 hb => mayenter_d (h.below (w' := w1) hb) id)
  clear h
  go_enter Try.func20, Try.ntmps20
  go_wp2_with (go_at_call 48; refine ((unhide H0) _ (by first | exact below_new _ _ | exact below_two _ _ _)).mono ?_; rintro e w1 ⟨⟨x, y, rfl⟩, hb⟩; have HB := hide (below_trans (by first | exact below_new _ _ | exact below_two _ _ _) hb); clear hb)
  go_ret
  exact ⟨rfl, (unhide HB).alloc (unhide HB).size _⟩
theorem put_d (h : DeadL w v) (i id : Int) (tk : Int) (tn td ts : ByteArray) (th : Int) (tq : Bool) (tc : Int) (tf : Bool) (ta : Option Addr) (tl tp : Nat) : Calls Try.prog 30 #[v, .int .i64 i, .int .i64 id, .agg #[.int .i64 tk, .string tn, .string td, .string ts, .int .i64 th, .bool tq, .int .i32 tc, .bool tf, .slice ta tl tp]] w fun e w' => e = .returned (.int .i64 7) ∧ Below w.heap.size w w' := by
  have H0 := hide (fun w1 hb => mayenter_d (h.below (w' := w1) hb) id)
  clear h
  go_enter Try.func30, Try.ntmps30
  go_wp2_with (go_at_call 48; refine ((unhide H0) _ (by first | exact below_new _ _ | exact below_two _ _ _)).mono ?_; rintro e w1 ⟨⟨x, y, rfl⟩, hb⟩; have HB := hide (below_trans (by first | exact below_new _ _ | exact below_two _ _ _) hb); clear hb)
  go_ret
  exact ⟨rfl, (unhide HB).alloc (unhide HB).size _⟩
theorem swap_d (h : DeadL w v) (old id : Int) : Calls Try.prog 32 #[v, .int .i64 old, .int .i64 id] w fun e w' => e = .returned (.int .i64 7) ∧ Below w.heap.size w w' := by
  have H0 := hide (fun w1 hb => mayenter_d (h.below (w' := w1) hb) id)
  have H1 := hide (fun w1 hb => find_d (h.below (w' := w1) hb) old)
  have H2 := hide (fun w1 hb => made_d (h.below (w' := w1) hb))
  clear h
  go_enter Try.func32, Try.ntmps32
  go_wp2_with (first | (go_at_call 48; refine ((unhide H0) _ (Below.refl _ _)).mono ?_; rintro e w1 ⟨⟨x, y, rfl⟩, hb⟩; have HB := hide (hb.alloc hb.size (.cells #[.int .i64 x, .string y] 81)); clear hb) | (go_at_call 9; refine ((unhide H1) _ (unhide HB)).mono ?_; rintro e w2 ⟨rfl, hb⟩; have HB2 := hide (below_trans (unhide HB) hb); clear hb) | (go_at_call 34; refine ((unhide H2) _ (unhide HB2)).mono ?_; rintro e w3 ⟨rfl, rfl⟩))
  go_ret
  exact ⟨rfl, unhide HB2⟩
theorem lennil_any (w : World) : Calls Try.prog 19 #[.pointer none] w fun e w' => e = .returned (.int .i64 0) ∧ w = w' := by
  have H0 : Hid (Calls Try.prog 40 #[.pointer none] w fun e w' => e = .returned (.bool false) ∧ w = w') := hide (by
    go_enter Try.func40, Try.ntmps40
    go_wp2
    go_ret
    exact ⟨rfl, rfl⟩)
  go_enter Try.func19, Try.ntmps19
  go_wp2_with (go_at_call 40; refine (unhide H0).mono ?_; rintro e w1 ⟨rfl, rfl⟩)
  go_ret
  exact ⟨rfl, rfl⟩
theorem newnil_any (w : World) : Calls Try.prog 5 #[.pointer none] w fun e w' => e = .returned (.tuple #[.pointer none, .int .i64 7]) ∧ w = w' := by
  have H0 := hide (lennil_any w)
  go_enter Try.func5, Try.ntmps5
  go_wp2_with (go_at_call 19; refine (unhide H0).mono ?_; rintro e w1 ⟨rfl, rfl⟩)
  go_ret2
  exact ⟨rfl, rfl⟩
end
end Go.Proofs.Ytabdgmcajndgbaa

namespace Go.Proofs.Ytabdgmcajndgbaa
open Go.RowKit Go.Sort

/-- A comparison by which whatever is neither ahead nor behind is the same to it. -/
structure OrdC {α : Type} (c : α → α → Int) : Prop where
  refl : ∀ x, c x x = 0
  anti : ∀ x y, c x y < 0 ↔ 0 < c y x
  trans : ∀ x y z, c x y < 0 → c y z < 0 → c x z < 0
  same : ∀ x y z, c x y = 0 → c x z = c y z ∧ c z x = c z y

def cmpI (x y : Int) : Int := if x < y then -1 else if y < x then 1 else 0
def cmpS (x y : ByteArray) : Int := if Op.bytesLess x.toList y.toList = true then -1 else if x.toList = y.toList then 0 else 1

theorem cmpI_zero {x y : Int} (h : cmpI x y = 0) : x = y := by
  unfold cmpI at h
  split at h
  · cases h
  · split at h
    · cases h
    · omega
theorem cmpI_ord : OrdC cmpI := by
  refine ⟨fun x => by simp [cmpI], fun x y => ?_, fun x y z h1 h2 => ?_, fun x y z h => by rw [cmpI_zero h]; exact ⟨rfl, rfl⟩⟩
  · unfold cmpI
    by_cases h1 : x < y
    · simp [h1]; omega
    · by_cases h2 : y < x
      · simp [h1, h2]
      · simp [h1, h2]
  · have lt : ∀ a b, cmpI a b < 0 → a < b := by
      intro a b h
      unfold cmpI at h
      split at h
      · assumption
      · split at h <;> omega
    have h3 := lt x y h1
    have h4 := lt y z h2
    unfold cmpI
    rw [if_pos (by omega)]
    decide

theorem bytes_ext {x y : ByteArray} (h : x.toList = y.toList) : x = y := by
  rw [ByteArray.toList_eq, ByteArray.toList_eq] at h
  obtain ⟨⟨x⟩⟩ := x
  obtain ⟨⟨y⟩⟩ := y
  simpa using h
theorem cmpS_zero {x y : ByteArray} (h : cmpS x y = 0) : x = y := by
  unfold cmpS at h
  split at h
  · cases h
  · split at h
    · exact bytes_ext (by assumption)
    · cases h
theorem cmpS_neg {x y : ByteArray} : cmpS x y < 0 ↔ x.toList < y.toList := by
  unfold cmpS
  rw [bytesLess_eq]
  by_cases h : x.toList < y.toList
  · simp [h]
  · simp [h]
    split <;> omega
theorem cmpS_ord : OrdC cmpS := by
  have irr : ∀ l : List UInt8, ¬ l < l := fun l => List.lt_irrefl l
  refine ⟨fun x => ?_, fun x y => ?_, fun x y z h1 h2 => ?_, fun x y z h => by rw [cmpS_zero h]; exact ⟨rfl, rfl⟩⟩
  · unfold cmpS
    rw [bytesLess_eq]
    simp [irr]
  · rw [cmpS_neg]
    unfold cmpS
    rw [bytesLess_eq]
    by_cases h : y.toList < x.toList
    · have h2 : ¬ x.toList < y.toList := fun h3 => irr _ (List.lt_trans h h3)
      simp [h, h2]
    · by_cases e : y.toList = x.toList
      · simp [e, irr]
      · simp only [h, decide_false, e, if_false]
        constructor
        · intro _; decide
        · intro _
          rcases Nat.lt_trichotomy 0 0 with q | q | q
          · omega
          · exact Decidable.byContradiction fun hn => e (List.le_antisymm hn h)
          · omega
  · rw [cmpS_neg] at *
    exact List.lt_trans h1 h2

/-- The first of two comparisons that tells. -/
def lexC {α : Type} (c d : α → α → Int) (x y : α) : Int := if c x y ≠ 0 then c x y else d x y
theorem lexC_zero {α : Type} {c d : α → α → Int} {x y : α} (h : lexC c d x y = 0) : c x y = 0 ∧ d x y = 0 := by
  unfold lexC at h
  split at h
  · contradiction
  · rename_i h2
    exact ⟨by omega, h⟩
theorem OrdC.lex {α : Type} {c d : α → α → Int} (hc : OrdC c) (hd : OrdC d) : OrdC (lexC c d) := by
  have z : ∀ x y, c x y = 0 → c y x = 0 := fun x y h => by
    have := (hc.same x y y h).1
    have := (hc.same x y x h).2
    have := hc.refl x
    have := hc.refl y
    have := hc.anti x y
    have := hc.anti y x
    omega
  refine ⟨fun x => by simp [lexC, hc.refl, hd.refl], fun x y => ?_, fun x y w h1 h2 => ?_, fun x y w h => ?_⟩
  · unfold lexC
    by_cases h0 : c x y = 0
    · simp [h0, z x y h0]; exact hd.anti x y
    · have h1 : c y x ≠ 0 := fun h => h0 (z y x h)
      simp [h0, h1]; exact hc.anti x y
  · unfold lexC at *
    by_cases e1 : c x y = 0
    · by_cases e2 : c y w = 0
      · simp [e1] at h1; simp [e2] at h2
        have e3 : c x w = 0 := by rw [(hc.same x y w e1).1]; exact e2
        simp [e3]
        exact hd.trans x y w h1 h2
      · simp [e2] at h2
        have e3 : c x w = c y w := (hc.same x y w e1).1
        rw [e3]; simp [e2]; exact h2
    · simp [e1] at h1
      by_cases e2 : c y w = 0
      · have e3 : c x w = c x y := ((hc.same y w x e2).2).symm
        rw [e3]; simp [e1]; exact h1
      · simp [e2] at h2
        have e3 := hc.trans x y w h1 h2
        rw [if_pos (by omega)]
        exact e3
  · obtain ⟨h1, h2⟩ := lexC_zero h
    obtain ⟨a1, a2⟩ := hc.same x y w h1
    obtain ⟨b1, b2⟩ := hd.same x y w h2
    unfold lexC
    rw [a1, a2, b1, b2]
    exact ⟨rfl, rfl⟩
theorem OrdC.pull {α β : Type} {c : β → β → Int} (h : OrdC c) (f : α → β) : OrdC (fun x y => c (f x) (f y)) :=
  ⟨fun _ => h.refl _, fun _ _ => h.anti _ _, fun _ _ _ => h.trans _ _ _, fun _ _ _ => h.same _ _ _⟩

def cmpA : AttrM → AttrM → Int := lexC (fun x y => cmpI x.space y.space) (lexC (fun x y => cmpS x.pre y.pre) (lexC (fun x y => cmpS x.name y.name) (fun x y => cmpS x.val y.val)))
theorem cmpA_ord : OrdC cmpA := (cmpI_ord.pull AttrM.space).lex ((cmpS_ord.pull AttrM.pre).lex ((cmpS_ord.pull AttrM.name).lex (cmpS_ord.pull AttrM.val)))
theorem cmpA_zero {x y : AttrM} (h : cmpA x y = 0) : x = y := by
  obtain ⟨h1, h⟩ := lexC_zero h
  obtain ⟨h2, h⟩ := lexC_zero h
  obtain ⟨h3, h4⟩ := lexC_zero h
  have e1 := cmpI_zero h1
  have e2 := cmpS_zero h2
  have e3 := cmpS_zero h3
  have e4 := cmpS_zero h4
  cases x; cases y
  simp_all

theorem cmpA_swo : SWO (ltOf cmpA) := by
  have h := cmpA_ord
  refine ⟨fun x => by simp [ltOf, h.refl], fun x y z h1 h2 => ?_, fun x y z h1 h2 => ?_⟩
  · simp only [ltOf, decide_eq_true_eq] at *
    exact h.trans x y z h1 h2
  · simp only [ltOf, decide_eq_false_iff_not] at *
    intro h3
    by_cases e : cmpA x y = 0
    · rw [(h.same x y z e).1] at h3; exact h2 h3
    · have h4 : cmpA y x < 0 := (h.anti y x).2 (by omega)
      exact h2 (h.trans y x z h4 h3)
theorem cmpA_tot : ∀ x y, ltOf cmpA x y = false → ltOf cmpA y x = false → x = y := by
  intro x y h1 h2
  simp only [ltOf, decide_eq_false_iff_not] at *
  have := cmpA_ord.anti y x
  exact cmpA_zero (by omega)

/-- Whether two attributes are one. -/
def eqA (x y : AttrM) : Bool := decide (x.space = y.space) && decide (x.pre = y.pre) && decide (x.name = y.name) && decide (x.val = y.val)
theorem eqA_iff {x y : AttrM} : eqA x y = true ↔ x = y := by
  cases x; cases y
  simp [eqA, and_assoc]
theorem eqA_no {x y : AttrM} : eqA x y = false ↔ x ≠ y := by
  rw [← Bool.not_eq_true, eqA_iff]

def sortA (l : List AttrM) : List AttrM := l.mergeSort fun x y => !ltOf cmpA y x
/-- Each of a list's neighbours that are one, once. -/
def compF : AttrM → List AttrM → List AttrM
  | _, [] => []
  | p, x :: r => if eqA x p = true then compF x r else x :: compF x r
def compA : List AttrM → List AttrM
  | [] => []
  | x :: r => x :: compF x r
def setL (l : List AttrM) : List AttrM := compA (sortA l)

theorem sortA_mem {l : List AttrM} {x : AttrM} : x ∈ sortA l ↔ x ∈ l := (List.mergeSort_perm l _).mem_iff
theorem sortA_len (l : List AttrM) : (sortA l).length = l.length := (List.mergeSort_perm l _).length_eq
theorem sortA_sorted (l : List AttrM) : (sortA l).Pairwise fun x y => ltOf cmpA y x = false := by
  have h := List.pairwise_mergeSort (le := fun x y => !ltOf cmpA y x) (fun a b c h1 h2 => by
    simp only [Bool.not_eq_true'] at *
    exact cmpA_swo.ntrans c b a h2 h1) (fun a b => by
    cases h1 : ltOf cmpA b a with
    | false => simp
    | true =>
      have : ltOf cmpA a b = false := by
        cases h2 : ltOf cmpA a b with
        | false => rfl
        | true => exact absurd (cmpA_swo.trans a b a h2 h1) (by rw [cmpA_swo.irrefl]; decide)
      simp [this]) l
  exact h.imp (fun h => by simpa using h)

theorem compF_mem : ∀ (l : List AttrM) (p x : AttrM), x ∈ p :: compF p l ↔ x ∈ p :: l
  | [], p, x => by simp [compF]
  | y :: r, p, x => by
    have ih := compF_mem r y x
    unfold compF
    split
    · rename_i h
      have e := eqA_iff.1 h
      subst e
      rw [ih]
      simp
    · rw [List.mem_cons, ih, List.mem_cons (l := y :: r)]
theorem compA_mem : ∀ {l : List AttrM} {x : AttrM}, x ∈ compA l ↔ x ∈ l
  | [], x => by simp [compA]
  | y :: r, x => compF_mem r y x
theorem compF_strict : ∀ (l : List AttrM) (p : AttrM), (p :: l).Pairwise (fun x y => ltOf cmpA y x = false) → (p :: compF p l).Pairwise (fun x y => ltOf cmpA x y = true)
  | [], p, _ => by simp [compF]
  | y :: r, p, h => by
    obtain ⟨h1, h2⟩ := List.pairwise_cons.1 h
    have ih := compF_strict r y h2
    unfold compF
    split
    · rename_i e
      have e := eqA_iff.1 e
      subst e
      exact ih
    · rename_i e
      have hne : y ≠ p := fun e2 => e (eqA_iff.2 e2)
      refine List.pairwise_cons.2 ⟨fun z hz => ?_, ih⟩
      have hpy : ltOf cmpA p y = true := by
        cases h3 : ltOf cmpA p y with
        | true => rfl
        | false => exact absurd (cmpA_tot y p (h1 y (by simp)) h3) hne
      rcases List.mem_cons.1 hz with rfl | hz
      · exact hpy
      · exact cmpA_swo.trans _ _ _ hpy ((List.pairwise_cons.1 ih).1 z hz)
theorem compA_strict {l : List AttrM} (h : l.Pairwise (fun x y => ltOf cmpA y x = false)) : (compA l).Pairwise (fun x y => ltOf cmpA x y = true) := by
  cases l with
  | nil => simp [compA]
  | cons x r => exact compF_strict r x h
theorem strict_one : ∀ {a b : List AttrM}, a.Pairwise (fun x y => ltOf cmpA x y = true) → b.Pairwise (fun x y => ltOf cmpA x y = true) → (∀ x, x ∈ a ↔ x ∈ b) → a = b
  | [], [], _, _, _ => rfl
  | [], y :: b, _, _, h => by have := (h y).2 (by simp); simp at this
  | x :: a, [], _, _, h => by have := (h x).1 (by simp); simp at this
  | x :: a, y :: b, ha, hb, h => by
    obtain ⟨a1, a2⟩ := List.pairwise_cons.1 ha
    obtain ⟨b1, b2⟩ := List.pairwise_cons.1 hb
    have irr : ∀ z, ¬ ltOf cmpA z z = true := fun z => by rw [cmpA_swo.irrefl]; decide
    have e : x = y := by
      rcases List.mem_cons.1 ((h x).1 (by simp)) with e | e
      · exact e
      · rcases List.mem_cons.1 ((h y).2 (by simp)) with e2 | e2
        · exact e2.symm
        · exact absurd (cmpA_swo.trans _ _ _ (b1 x e) (a1 y e2)) (irr _)
    subst e
    rw [strict_one a2 b2 (fun z => ⟨fun hz => ?_, fun hz => ?_⟩)]
    · rcases List.mem_cons.1 ((h z).1 (List.mem_cons_of_mem _ hz)) with e | e
      · subst e; exact absurd (a1 z hz) (irr _)
      · exact e
    · rcases List.mem_cons.1 ((h z).2 (List.mem_cons_of_mem _ hz)) with e | e
      · subst e; exact absurd (b1 z hz) (irr _)
      · exact e

theorem setL_mem {l : List AttrM} {x : AttrM} : x ∈ setL l ↔ x ∈ l := compA_mem.trans sortA_mem
theorem setL_eq {a b : List AttrM} : setL a = setL b ↔ ∀ x, x ∈ a ↔ x ∈ b := by
  constructor
  · intro h x
    rw [← setL_mem (l := a), h, setL_mem]
  · intro h
    exact strict_one (compA_strict (sortA_sorted a)) (compA_strict (sortA_sorted b)) (fun x => setL_mem.trans ((h x).trans setL_mem.symm))

/-- As the document asks it: each of the one is in the other. -/
def hasA (l : List AttrM) (x : AttrM) : Bool := l.any fun y => eqA y x
def setsB (a b : List AttrM) : Bool := a.all (hasA b) && b.all (hasA a)
theorem hasA_iff {l : List AttrM} {x : AttrM} : hasA l x = true ↔ x ∈ l := by
  unfold hasA
  rw [List.any_eq_true]
  constructor
  · rintro ⟨y, hy, e⟩
    rw [← eqA_iff.1 e]; exact hy
  · intro h
    exact ⟨x, h, eqA_iff.2 rfl⟩
theorem setsB_iff {a b : List AttrM} : setsB a b = true ↔ setL a = setL b := by
  unfold setsB
  rw [Bool.and_eq_true, List.all_eq_true, List.all_eq_true, setL_eq]
  constructor
  · rintro ⟨h1, h2⟩ x
    exact ⟨fun h => hasA_iff.1 (h1 x h), fun h => hasA_iff.1 (h2 x h)⟩
  · intro h
    exact ⟨fun x hx => hasA_iff.2 ((h x).1 hx), fun x hx => hasA_iff.2 ((h x).2 hx)⟩

/-- One attribute more at the end. -/
theorem compF_snoc : ∀ (l : List AttrM) (p x q : AttrM), (p :: l).getLast? = some q → compF p (l ++ [x]) = compF p l ++ (if eqA x q = true then [] else [x])
  | [], p, x, q, h => by
    simp at h
    subst h
    simp only [List.nil_append, compF]
  | y :: r, p, x, q, h => by
    have ih := compF_snoc r y x q (by simpa using h)
    rw [List.cons_append, compF, compF, ih]
    split <;> simp
theorem compA_snoc {l : List AttrM} {p x : AttrM} {k : Nat} (hk : l.length = k + 1) (hp : l[k]? = some p) : compA (l ++ [x]) = compA l ++ (if eqA x p = true then [] else [x]) := by
  cases l with
  | nil => simp at hk
  | cons y r =>
    have e : (y :: r).getLast? = some p := by
      rw [List.getLast?_eq_getElem?, hk]
      exact hp
    rw [List.cons_append, compA, compA, compF_snoc _ _ _ _ e]
    rfl
theorem compF_len : ∀ (l : List AttrM) (p : AttrM), (compF p l).length ≤ l.length
  | [], _ => by simp [compF]
  | y :: r, p => by
    have ih := compF_len r y
    unfold compF
    split <;> simp <;> omega
theorem compA_len (l : List AttrM) : (compA l).length ≤ l.length := by
  cases l with
  | nil => simp [compA]
  | cons x r => have := compF_len r x; simp [compA]; omega
end Go.Proofs.Ytabdgmcajndgbaa
