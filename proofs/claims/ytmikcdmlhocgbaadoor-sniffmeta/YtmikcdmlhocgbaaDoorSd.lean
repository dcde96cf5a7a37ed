/-
  Package sniff's scanner: find, findBehind, quoted, charset.
-/
import Derived.Test.YtmikcdmlhocgbaaDoorSc
namespace Go.Proofs.YtmikcdmlhocgbaaDoor
open Go.RowKit Go.Lib

def findF (x l : List UInt8) : Nat → Nat → Nat
  | 0, k => k
  | n + 1, k => if seesM l k x then k else findF x l n (k + 1)
/-- Where the first x begins, from a place on; the end, if there is none. -/
def findM (x l : List UInt8) (k : Nat) : Nat := findF x l (l.length - k) k
theorem findM_end {x l : List UInt8} {k : Nat} (h : l.length ≤ k) : findM x l k = k := by
  unfold findM
  rw [show l.length - k = 0 by omega]
  rfl
theorem findM_yes {x l : List UInt8} {k : Nat} (h : k < l.length) (hs : seesM l k x = true) : findM x l k = k := by
  unfold findM
  obtain ⟨n, hn⟩ : ∃ n, l.length - k = n + 1 := ⟨l.length - k - 1, by omega⟩
  rw [hn, findF, if_pos hs]
theorem findM_no {x l : List UInt8} {k : Nat} (h : k < l.length) (hs : seesM l k x = false) : findM x l k = findM x l (k + 1) := by
  unfold findM
  obtain ⟨n, hn⟩ : ∃ n, l.length - k = n + 1 := ⟨l.length - k - 1, by omega⟩
  rw [hn, findF, if_neg (by rw [hs]; simp), show l.length - (k + 1) = n by omega]
theorem findM_spec {x l : List UInt8} : ∀ {n k : Nat}, l.length - k = n → k ≤ l.length → k ≤ findM x l k ∧ findM x l k ≤ l.length ∧ (findM x l k < l.length → seesM l (findM x l k) x = true)
  | 0, k, hn, hk => by
    rw [findM_end (by omega)]
    exact ⟨Nat.le_refl _, hk, fun h => by omega⟩
  | n + 1, k, hn, hk => by
    cases hs : seesM l k x with
    | true =>
      rw [findM_yes (by omega) hs]
      exact ⟨Nat.le_refl _, hk, fun _ => hs⟩
    | false =>
      rw [findM_no (by omega) hs]
      obtain ⟨h1, h2, h3⟩ := findM_spec (x := x) (l := l) (n := n) (k := k + 1) (by omega) (by omega)
      exact ⟨by omega, h2, h3⟩
theorem sees_fits {x l : List UInt8} {k : Nat} (h : seesM l k x = true) (hx : 0 < x.length) : k + x.length ≤ l.length := by
  unfold seesM at h
  rw [decide_eq_true_eq] at h
  have := congrArg List.length h
  rw [List.length_map, List.length_take, List.length_drop] at this
  omega

section
variable {w w' : World} {b : Nat} {t : ByteArray} {k : Nat}

/-- A scanner that has gone on. -/
structure Gone (w w' : World) (b : Nat) (t : ByteArray) (m : Nat) : Prop where
  sc : Sc w' b t m
  mod : Mod (· = b) w w'
theorem Gone.dn (h : Gone w w' b t k) (n : Nat) : Gone w (w'.drewN n) b t k := ⟨h.sc.dn n, h.mod.trans (Mod.of_below (below_dr _ n))⟩
theorem Gone.below {w1 : World} (h : Gone w w' b t k) (hb : Below w'.heap.size w' w1) : Gone w w1 b t k := ⟨h.sc.below hb, h.mod.trans (Mod.of_below hb)⟩
theorem Gone.set (h : Gone w w' b t k) (m : Nat) : Gone w (w'.setCell ⟨b, 1, none⟩ (.int .i64 (m : Int))) b t m := ⟨h.sc.set m, h.mod.trans (Mod.setCell _ _ _ rfl)⟩
theorem Gone.then {w1 : World} {m : Nat} (h : Gone w w' b t k) (h1 : Gone w' w1 b t m) : Gone w w1 b t m := ⟨h1.sc, h.mod.trans h1.mod⟩
theorem Gone.refl (h : Sc w b t k) : Gone w w b t k := ⟨h, Mod.refl _ _⟩

set_option maxHeartbeats 1000000 in
theorem find_any (h : Sc w b t k) (hk : k ≤ t.size) (hs : Small t) (x : ByteArray) (hx0 : 0 < x.size) (hx : x.size ≤ 100) :
    Calls Tryd.prog 29 #[.pointer (some ⟨b, 0, none⟩), .string x] w fun e w' => e = .returned (.bool (decide (findM x.data.toList t.data.toList k < t.size))) ∧ Gone w w' b t (findM x.data.toList t.data.toList k) := by
  have HS := hide h
  have HM := hide hs
  have HK := hide hk
  have HX := hide (And.intro hx0 hx)
  clear h hs hk hx0 hx
  go_enter Tryd.func29, Tryd.ntmps29
  go_wp2
  go_loopg [] (t.size - k) (fun g wx => ∃ j : Nat, j + g = t.size ∧ findM x.data.toList t.data.toList j = findM x.data.toList t.data.toList k ∧ Gone w wx b t j)
  case atStart => exact ⟨k, by have := unhide HK; omega, rfl, Gone.refl (unhide HS)⟩
  case round =>
    obtain ⟨j, hjg, hp, hgo⟩ := hrel
    have hsc := hgo.sc
    have HP := hide hp
    have HG := hide hgo
    have HO := hide (over_any hsc)
    have HSE : Hid (∀ n, Calls Tryd.prog 32 #[.pointer (some ⟨b, 0, none⟩), .string x] (wr.drewN n) fun e w' => e = .returned (.bool (seesM t.data.toList j x.data.toList)) ∧ ∃ m, w' = (wr.drewN n).drewN m) := hide (fun n => sees_any (hsc.dn n) (by omega) (unhide HM) x (unhide HX).1 (unhide HX).2)
    have HOW : Hid (∀ n, Calls Tryd.prog 20 #[.pointer (some ⟨b, 0, none⟩)] (wr.drewN n) fun e w' => e = .returned (.bool (decide (t.size ≤ j))) ∧ ∃ q, w' = (wr.drewN n).drewN q) := hide (fun n => over_any (hsc.dn n))
    have hw : IntKind.i64.wrap ((j : Int) + 1) = (j : Int) + 1 := by have := unhide HM; unfold Small at this; exact wrap_add j 1 (by omega) (by omega)
    obtain ⟨c0, c1, cf⟩ := hsc.cells
    have cf1 := cf 1
    clear hp hgo hsc cf
    by_cases hj : t.size ≤ j
    · have hd : decide (t.size ≤ j) = true := by simpa using hj
      rw [hd] at HO HOW
      have HE := hide (findM_end (x := x.data.toList) (l := t.data.toList) (k := j) (by rw [len_data]; exact hj))
      go_wp2_with (first
        | (have _x := unhide HB1; go_at_call 20; refine ((unhide HOW) _).mono ?_; rintro e w2 ⟨rfl, m, rfl⟩)
        | (go_at_call 20; refine (unhide HO).mono ?_; rintro e w1 ⟨rfl, n, rfl⟩; have HB1 := hide hj))
      go_ret
      have e1 : findM x.data.toList t.data.toList k = j := by rw [← unhide HP, unhide HE]
      rw [e1]
      exact ⟨by rw [show decide (j < t.size) = false by rw [decide_eq_false_iff_not]; omega]; rfl, (unhide HG).dn _⟩
    · have hd : decide (t.size ≤ j) = false := by simpa using hj
      rw [hd] at HO HOW
      cases hr : seesM t.data.toList j x.data.toList with
      | true =>
        have HE := hide (findM_yes (by rw [len_data]; omega) hr)
        rw [hr] at HSE
        clear hr
        go_wp2_with (first
          | (have _x := unhide HB2; go_at_call 20; refine ((unhide HOW) _).mono ?_; rintro e w2 ⟨rfl, q, rfl⟩)
          | (go_at_call 32; refine ((unhide HSE) _).mono ?_; rintro e w1 ⟨rfl, m, rfl⟩; have HB2 := hide hj)
          | (go_at_call 20; refine (unhide HO).mono ?_; rintro e w1 ⟨rfl, n, rfl⟩))
        go_ret
        have e1 : findM x.data.toList t.data.toList k = j := by rw [← unhide HP, unhide HE]
        rw [e1]
        exact ⟨by rw [show decide (j < t.size) = true by rw [decide_eq_true_eq]; omega]; rfl, (unhide HG).dn _⟩
      | false =>
        have HE := hide (findM_no (by rw [len_data]; omega) hr)
        rw [hr] at HSE
        clear hr
        go_wp2_with (first
          | (go_at_call 32; refine ((unhide HSE) _).mono ?_; rintro e w1 ⟨rfl, m, rfl⟩)
          | (go_at_call 20; refine (unhide HO).mono ?_; rintro e w1 ⟨rfl, n, rfl⟩))
        go_roundg (gk - 1)
        case measure => omega
        case rel => exact ⟨j + 1, by omega, by rw [← unhide HE, unhide HP], ((unhide HG).dn _).set (j + 1)⟩
end
end Go.Proofs.YtmikcdmlhocgbaaDoor
