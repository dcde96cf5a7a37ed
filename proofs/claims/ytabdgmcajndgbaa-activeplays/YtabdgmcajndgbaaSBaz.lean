/-
  The document's list: how many times an attribute stands in a list, whether two lists hold the same ones, whether two entries are alike.
-/
import Derived.Test.YtabdgmcajndgbaaSBay
namespace Go.Proofs.Ytabdgmcajndgbaa
open Go.RowKit Go.Sort

/-- A struct in its variable, and what was made behind it. -/
structure E1 (w : World) (o : Obj) (W : World) : Prop where
  low : Below (w.alloc o).heap.size (w.alloc o) W
section
variable {w W W' : World} {o : Obj}
theorem E1.start (w : World) (o : Obj) : E1 w o (w.alloc o) := ⟨Below.refl _ _⟩
theorem E1.bel (h : E1 w o W) : Below w.heap.size w W := (below_new w o).trans (h.low.mono (by simp))
theorem E1.x (h : E1 w o W) : W.heap[w.heap.size]? = some o := kept_oldK (heap_alloc_new w o) h.low
theorem E1.more (h : E1 w o W) (hb : Below W.heap.size W W') : E1 w o W' := ⟨h.low.trans (hb.mono h.low.size)⟩
theorem E1.alloc (h : E1 w o W) (p : Obj) : E1 w o (W.alloc p) := h.more (below_new _ _)
theorem E1.drew (h : E1 w o W) : E1 w o W.drew := h.more (Below.refl _ _).drew
theorem E1.drewN (h : E1 w o W) (n : Nat) : E1 w o (W.drewN n) := h.more (below_dn (Below.refl _ _) n)
theorem E1.lt (h : E1 w o W) : w.heap.size < W.heap.size := lt_of_block h.x
end

def cntA (l : List AttrM) (x : AttrM) : Nat := l.countP fun y => eqA y x
theorem cntA_has (l : List AttrM) (x : AttrM) : (((cntA l x : Nat) : Int) == 0) = !hasA l x := by
  unfold cntA hasA
  cases h : l.any (fun y => eqA y x) with
  | false =>
    have e : l.countP (fun y => eqA y x) = 0 := List.countP_eq_zero.2 fun a ha => by simpa using (List.any_eq_false.1 h) a ha
    rw [e]; rfl
  | true =>
    obtain ⟨y, hy, e⟩ := List.any_eq_true.1 h
    have hp : 0 < l.countP (fun y => eqA y x) := List.countP_pos_iff.2 ⟨y, hy, e⟩
    have hz : ((l.countP (fun y => eqA y x) : Nat) : Int) ≠ 0 := by omega
    rw [beq_eq_false_iff_ne.2 hz]; rfl
theorem cntA_le (l : List AttrM) (x : AttrM) : cntA l x ≤ l.length := List.countP_le_length
theorem cntA_snoc {l : List AttrM} {i : Nat} {y : AttrM} (h : l[i]? = some y) (x : AttrM) : cntA (l.take (i + 1)) x = cntA (l.take i) x + (if eqA y x = true then 1 else 0) := by
  obtain ⟨hlt, rfl⟩ := List.getElem?_eq_some_iff.1 h
  unfold cntA
  rw [List.take_succ_eq_append_getElem hlt, List.countP_append]
  simp [List.countP_cons]

set_option maxHeartbeats 4000000 in
set_option maxRecDepth 10000 in
theorem qhas_any (w : World) (a : Option Addr) (cap : Nat) (l : List AttrM) (hl : AttrsIn w a l) (hn : l.length ≤ 2513169434916) (x : AttrM) :
    Calls Try.prog 77 #[.slice a l.length cap, x.agg] w fun e w' => e = .returned (.int .i64 ((cntA l x : Nat) : Int)) ∧ Below w.heap.size w w' := by
  have HIN := hide (fun W (hb : Below w.heap.size w W) => hl.below hb)
  have HB0 := hide (E1.start w (.cells #[.int .i64 x.space, .string x.pre, .string x.name, .string x.val] 86))
  have hnz : (l.length : Int) ≤ 2513169434916 := by omega
  have HNN := hide hn
  unfold AttrM.agg
  clear hl hn
  go_enter Try.func77, Try.ntmps77
  go_wp2
  go_loopg [5, 6] l.length (fun g s5 s6 wr => ∃ i : Nat, i + g = l.length ∧ s6 = .int .i64 (i : Int) ∧ s5 = .int .i64 ((cntA (l.take i) x : Nat) : Int) ∧ E1 w (.cells #[.int .i64 x.space, .string x.pre, .string x.name, .string x.val] 86) wr)
  case atStart => exact ⟨0, by omega, rfl, rfl, unhide HB0⟩
  case round =>
    obtain ⟨i, hig, rfl, rfl, he⟩ := hrel
    have HE1 := hide he
    have hcl := cntA_le (l.take i) x
    have hti : (l.take i).length ≤ i := by rw [List.length_take]; omega
    have HCI : Hid (cntA (l.take i) x ≤ i) := hide (by omega)
    clear hcl hti
    by_cases hi : i < l.length
    · obtain ⟨y, hy⟩ : ∃ y, l[i]? = some y := ⟨_, List.getElem?_eq_getElem hi⟩
      obtain ⟨ba, oa, rfl, a0, a1, a2, a3⟩ := ((unhide HIN) _ he.bel).cells i _ hy
      have hx := he.x
      have b0 := cell_of_row _ _ 0 _ _ _ hx
      have b1 := cell_of_row _ _ 1 _ _ _ hx
      have b2 := cell_of_row _ _ 2 _ _ _ hx
      have b3 := cell_of_row _ _ 3 _ _ _ hx
      have hiz : (i : Int) < (l.length : Int) := by omega
      have HS := hide (cntA_snoc hy x)
      have HY := hide hy
      have HIG := hide hig
      have HHI := hide hi
      have hw1 : IntKind.i64.wrap (((cntA (l.take i) x : Nat) : Int) + 1) = ((cntA (l.take i) x + 1 : Nat) : Int) := by
        have := unhide HCI
        have := unhide HNN
        rw [IntKind.wrap_i64]; omega
      clear he hx hy hig hi
      generalize hcg : cntA (l.take i) x = c at *
      have HCG := hide hcg
      clear hcg
      cases hq0 : eqA y x with
      | true =>
        have HE := hide hq0
        have hg := guardA
        have hq := fun W => eqlAttr y x W
        rw [hq0] at hq
        clear hq0
        go_wp2
        go_quiet (fail)
        go_wp2
        go_roundg (gk - 1)
        case measure => have := unhide HIG; have := unhide HHI; omega
        case rel =>
          refine ⟨i + 1, by have := unhide HIG; have := unhide HHI; omega, by go_num, ?_, (unhide HE1).drewN _⟩
          rw [unhide HS, unhide HE, if_pos rfl]
          rfl
      | false =>
        have HE := hide hq0
        have hg := guardA
        have hq := fun W => eqlAttr y x W
        rw [hq0] at hq
        clear hq0
        go_wp2
        go_quiet (fail)
        go_wp2
        go_roundg (gk - 1)
        case measure => have := unhide HIG; have := unhide HHI; omega
        case rel =>
          refine ⟨i + 1, by have := unhide HIG; have := unhide HHI; omega, by go_num, ?_, (unhide HE1).drewN _⟩
          rw [unhide HS, unhide HE, if_neg (by decide)]
          rfl
    · have hiz : ¬ (i : Int) < (l.length : Int) := by omega
      have HIE : Hid (l.take i = l) := hide (List.take_of_length_le (by omega))
      clear he hig hi
      generalize hcg : cntA (l.take i) x = c at *
      have HCG := hide hcg
      clear hcg
      go_wp2
      go_ret
      refine ⟨?_, (unhide HE1).bel⟩
      rw [← unhide HCG, unhide HIE]
      rfl

set_option maxHeartbeats 4000000 in
set_option maxRecDepth 10000 in
theorem qsets_any (w : World) (a b : Option Addr) (c d : Nat) (l m : List AttrM) (hl : AttrsIn w a l) (hm : AttrsIn w b m) (hln : l.length ≤ 2513169434916) (hmn : m.length ≤ 2513169434916) :
    Calls Try.prog 69 #[.slice a l.length c, .slice b m.length d] w fun e w' => e = .returned (.bool (setsB l m)) ∧ Below w.heap.size w w' := by
  have HL := hide (fun W (hb : Below w.heap.size w W) => hl.below hb)
  have HM := hide (fun W (hb : Below w.heap.size w W) => hm.below hb)
  have HLC := hide (fun W (hb : Below w.heap.size w W) x => qhas_any W a c l (hl.below hb) hln x)
  have HMC := hide (fun W (hb : Below w.heap.size w W) x => qhas_any W b d m (hm.below hb) hmn x)
  have hlz : (l.length : Int) ≤ 2513169434916 := by omega
  have hmz : (m.length : Int) ≤ 2513169434916 := by omega
  clear hl hm hln hmn
  go_enter Try.func69, Try.ntmps69
  go_wp2
  go_loopg [5] l.length (fun g s5 wr => ∃ i : Nat, i + g = l.length ∧ s5 = .int .i64 (i : Int) ∧ Below w.heap.size w wr ∧ ∀ x ∈ l.take i, hasA m x = true)
  case atStart => exact ⟨0, by omega, rfl, Below.refl _ _, fun x hx => by simp at hx⟩
  case round =>
    obtain ⟨i, hig, rfl, hb, hal⟩ := hrel
    have HB := hide hb
    have HAL := hide hal
    by_cases hi : i < l.length
    · obtain ⟨y, hy⟩ : ∃ y, l[i]? = some y := ⟨_, List.getElem?_eq_getElem hi⟩
      obtain ⟨ba, oa, rfl, a0, a1, a2, a3⟩ := ((unhide HL) _ hb).cells i _ hy
      have hiz : (i : Int) < (l.length : Int) := by omega
      have HCON := hide ((unhide HMC) _ hb y)
      have hce := cntA_has m y
      have HY := hide hy
      have HIG := hide hig
      have HHI := hide hi
      unfold AttrM.agg at HCON
      clear hb hal hy hig hi
      cases hh : hasA m y with
      | true =>
        rw [hh] at hce
        have HH := hide hh
        clear hh
        generalize ((cntA m y : Nat) : Int) = cn at *
        go_wp2_with (first
          | (go_at_call 77; refine (unhide HCON).mono ?_; rintro e w1 ⟨rfl, hb1⟩; have HB1 := hide ((unhide HB).trans (hb1.mono (unhide HB).size)); clear hb1))
        go_roundg (gk - 1)
        case measure => have := unhide HIG; have := unhide HHI; omega
        case rel =>
          refine ⟨i + 1, by have := unhide HIG; have := unhide HHI; omega, by go_num, unhide HB1, fun z hz => ?_⟩
          obtain ⟨hlt, rfl⟩ := List.getElem?_eq_some_iff.1 (unhide HY)
          rw [List.take_succ_eq_append_getElem hlt] at hz
          rcases List.mem_append.1 hz with e | e
          · exact (unhide HAL) z e
          · simp at e; subst e; exact unhide HH
      | false =>
        rw [hh] at hce
        have HH := hide hh
        clear hh
        generalize ((cntA m y : Nat) : Int) = cn at *
        go_wp2_with (first
          | (go_at_call 77; refine (unhide HCON).mono ?_; rintro e w1 ⟨rfl, hb1⟩; have HB1 := hide ((unhide HB).trans (hb1.mono (unhide HB).size)); clear hb1))
        go_ret
        refine ⟨?_, unhide HB1⟩
        have e : setsB l m = false := by
          unfold setsB
          have : l.all (hasA m) = false := List.all_eq_false.2 ⟨y, List.mem_of_getElem? (unhide HY), by rw [unhide HH]; decide⟩
          rw [this]; rfl
        rw [e]; rfl
    · have hiz : ¬ (i : Int) < (l.length : Int) := by omega
      have HALL : Hid (l.all (hasA m) = true) := hide (List.all_eq_true.2 fun x hx => hal x (by rw [List.take_of_length_le (by omega)]; exact hx))
      clear hb hal hig hi HAL
      go_wp2
      go_loopg [6] m.length (fun g s6 wr2 => ∃ j : Nat, j + g = m.length ∧ s6 = .int .i64 (j : Int) ∧ Below w.heap.size w wr2 ∧ ∀ x ∈ m.take j, hasA l x = true)
      case atStart => exact ⟨0, by omega, rfl, unhide HB, fun x hx => by simp at hx⟩
      case round =>
        obtain ⟨j, hjg, rfl, hb2, hal2⟩ := hrel
        have HB2 := hide hb2
        have HAL := hide hal2
        by_cases hj : j < m.length
        · obtain ⟨y, hy⟩ : ∃ y, m[j]? = some y := ⟨_, List.getElem?_eq_getElem hj⟩
          obtain ⟨ba, oa, rfl, a0, a1, a2, a3⟩ := ((unhide HM) _ hb2).cells j _ hy
          have hjz : (j : Int) < (m.length : Int) := by omega
          have HCON := hide ((unhide HLC) _ hb2 y)
          have hce := cntA_has l y
          have HY := hide hy
          have HIG := hide hjg
          have HHI := hide hj
          unfold AttrM.agg at HCON
          clear hb2 hal2 hy hjg hj
          cases hh : hasA l y with
          | true =>
            rw [hh] at hce
            have HH := hide hh
            clear hh
            generalize ((cntA l y : Nat) : Int) = cn at *
            go_wp2_with (first
              | (go_at_call 77; refine (unhide HCON).mono ?_; rintro e w1 ⟨rfl, hb1⟩; have HB1 := hide ((unhide HB2).trans (hb1.mono (unhide HB2).size)); clear hb1))
            go_roundg (gk - 1)
            case measure => have := unhide HIG; have := unhide HHI; omega
            case rel =>
              refine ⟨j + 1, by have := unhide HIG; have := unhide HHI; omega, by go_num, unhide HB1, fun z hz => ?_⟩
              obtain ⟨hlt, rfl⟩ := List.getElem?_eq_some_iff.1 (unhide HY)
              rw [List.take_succ_eq_append_getElem hlt] at hz
              rcases List.mem_append.1 hz with e | e
              · exact (unhide HAL) z e
              · simp at e; subst e; exact unhide HH
          | false =>
            rw [hh] at hce
            have HH := hide hh
            clear hh
            generalize ((cntA l y : Nat) : Int) = cn at *
            go_wp2_with (first
              | (go_at_call 77; refine (unhide HCON).mono ?_; rintro e w1 ⟨rfl, hb1⟩; have HB1 := hide ((unhide HB2).trans (hb1.mono (unhide HB2).size)); clear hb1))
            go_ret
            refine ⟨?_, unhide HB1⟩
            have e : setsB l m = false := by
              unfold setsB
              have : m.all (hasA l) = false := List.all_eq_false.2 ⟨y, List.mem_of_getElem? (unhide HY), by rw [unhide HH]; decide⟩
              rw [this, Bool.and_false]
            rw [e]; rfl
        · have hjz : ¬ (j : Int) < (m.length : Int) := by omega
          have HALL2 : Hid (m.all (hasA l) = true) := hide (List.all_eq_true.2 fun x hx => hal2 x (by rw [List.take_of_length_le (by omega)]; exact hx))
          clear hb2 hal2 hjg hj HAL
          go_wp2
          go_ret
          refine ⟨?_, unhide HB2⟩
          have e : setsB l m = true := by
            unfold setsB
            rw [unhide HALL, unhide HALL2]; rfl
          rw [e]; rfl
end Go.Proofs.Ytabdgmcajndgbaa
