/-
  Twice is once: AdjustOnce's walk.
-/
import Derived.Test.YtgbinemombgckaaDoorDd
namespace Go.Proofs.YtgbinemombgckaaDoor
open Go.RowKit Go.Lib

theorem proper_cases (l : List ByteArray) (n : ByteArray) : properM l n = n ∨ (properM l n ∈ l ∧ isM (properM l n) n = true) := by
  unfold properM
  cases h : l.find? (fun x => isM x n) with
  | none => exact .inl rfl
  | some y => exact .inr ⟨List.mem_of_find?_eq_some h, by have := List.find?_some h; exact this⟩
theorem tableE : ∀ y ∈ svgE, properM svgE y = y := by
  have : svgE.all (fun y => decide (properM svgE y = y)) = true := by decide +kernel
  exact fun y hy => of_decide_eq_true (List.all_eq_true.1 this y hy)
theorem tableA : ∀ y ∈ svgA, properM svgA y = y := by
  have : svgA.all (fun y => decide (properM svgA y = y)) = true := by decide +kernel
  exact fun y hy => of_decide_eq_true (List.all_eq_true.1 this y hy)
theorem onceE (n : ByteArray) : properM svgE (properM svgE n) = properM svgE n := by
  rcases proper_cases svgE n with h | ⟨h, _⟩
  · rw [h, h]
  · exact tableE _ h
theorem onceA (n : ByteArray) : properM svgA (properM svgA n) = properM svgA n := by
  rcases proper_cases svgA n with h | ⟨h, _⟩
  · rw [h, h]
  · exact tableA _ h
theorem svg_once (x : AttrM) : svgF (svgF x) = svgF x := by
  unfold svgF
  cases h : (x.space == 0) with
  | true => simp only [if_true, h, onceA]
  | false => simp [h]
theorem math_once (x : AttrM) : mathF (mathF x) = mathF x := by
  unfold mathF
  cases h : isName x defurl with
  | true =>
    simp only [if_true]
    have : isName { x with name := defURL } defurl = false := by
      have hn : (defURL.toList == defurl.toList) = false := by rw [toList_data, toList_data]; decide
      simp only [isName, hn, Bool.and_false]
    rw [this]
    rfl
  | false => simp [h]
theorem rows_space : ∀ r ∈ rows, (r.space == 0) = false := by
  have : rows.all (fun r => !(r.space == 0)) = true := by decide +kernel
  exact fun r hr => by have := List.all_eq_true.1 this r hr; simpa using this
theorem for_once (x : AttrM) : forF (forF x) = forF x := by
  cases h : findR (fun r => isName x r.src) with
  | none =>
    have : forF x = x := by unfold forF; rw [h]
    rw [this, this]
  | some r =>
    have hr : r ∈ rows := List.mem_of_find?_eq_some h
    have : forF x = forOf x r := by unfold forF; rw [h]
    rw [this]
    exact forF_space _ (rows_space r hr)
theorem svg_val (x : AttrM) : (svgF x).val = x.val := by unfold svgF; split <;> rfl
theorem math_val (x : AttrM) : (mathF x).val = x.val := by unfold mathF; split <;> rfl
theorem for_val (x : AttrM) : (forF x).val = x.val := by unfold forF; split <;> rfl
theorem twice {f : AttrM → AttrM} (h : ∀ x, f (f x) = f x) (l : List AttrM) : (l.map f).map f = l.map f := by
  rw [List.map_map]
  exact List.map_congr_left (fun x _ => h x)

section
variable (l : List AttrM) (n : Nat) (hn : l.length = n) (a : Option Addr) (cap : Nat) (w : World) (hin : AttrsIn w a l) (hl : n * 56 ≤ 140737488351232)
include hn hin hl
theorem svg_n : Calls Tryd.prog 11 #[.slice a n cap] w fun e w' => ∃ ao cp, e = .returned (.slice ao n cp) ∧ AttrsIn w' ao (l.map svgF) ∧ Below w.heap.size w w' := by
  subst hn; exact svg_any l a cap w hin hl
theorem math_n : Calls Tryd.prog 12 #[.slice a n cap] w fun e w' => ∃ ao cp, e = .returned (.slice ao n cp) ∧ AttrsIn w' ao (l.map mathF) ∧ Below w.heap.size w w' := by
  subst hn; exact math_any l a cap w hin hl
theorem for_n (hS : SpAt w) : Calls Tryd.prog 7 #[.slice a n cap] w fun e w' => ∃ ao cp, e = .returned (.slice ao n cp) ∧ AttrsIn w' ao (l.map forF) ∧ Below w.heap.size w w' := by
  subst hn; exact foreign_any l a cap w hS hin hl
end
theorem AttrsIn.val {w : World} {a : Option Addr} {l : List AttrM} {f : AttrM → AttrM} (h : AttrsIn w a (l.map f)) (hv : ∀ x, (f x).val = x.val) {i : Nat} {x : AttrM} (hx : l[i]? = some x) : ∃ b off, a = some ⟨b, off, none⟩ ∧ w.cell? ⟨b, off + i * 4 + 3, none⟩ = some (.string x.val) := by
  obtain ⟨b, off, e, _, _, _, c3⟩ := h.cells i (f x) (by rw [List.getElem?_map, hx]; rfl)
  rw [hv] at c3
  exact ⟨b, off, e, c3⟩

set_option maxHeartbeats 8000000 in
set_option maxRecDepth 10000 in
theorem adjustOnce_any (s : ByteArray) (l : List AttrM) (a : Option Addr) (cap : Nat) (w : World) (hS : SpAt w) (hin : AttrsIn w a l) (hl : l.length * 56 ≤ 140737488351232) :
    Calls Tryd.prog 4 #[.string s, .slice a l.length cap] w fun e w' => e = .returned (.bool true) ∧ Below w.heap.size w w' := by
  have HIN := hide hin
  have HSP := hide hS
  have hlz : (l.length : Int) ≤ 140737488355328 := by omega
  have HE1 := hide (fun W => element_any s W)
  have HE2 := hide (fun W => element_any (properM svgE s) W)
  rw [onceE] at HE2
  generalize properM svgE s = e at HE1 HE2
  have HX1 := hide (fun a cap W h => svg_n l l.length rfl a cap W h hl)
  have HX2 := hide (fun a cap W h => svg_n (l.map svgF) l.length (List.length_map _) a cap W h hl)
  rw [twice svg_once] at HX2
  have HXS := hide (fun a b ca cb W h1 h2 => same_any (w := W) a b ca cb (l.map svgF) l.length (List.length_map _) h1 h2 hl)
  have HY1 := hide (fun a cap W h => math_n l l.length rfl a cap W h hl)
  have HY2 := hide (fun a cap W h => math_n (l.map mathF) l.length (List.length_map _) a cap W h hl)
  rw [twice math_once] at HY2
  have HYS := hide (fun a b ca cb W h1 h2 => same_any (w := W) a b ca cb (l.map mathF) l.length (List.length_map _) h1 h2 hl)
  have HZ1 := hide (fun a cap W h => for_n l l.length rfl a cap W h hl)
  have HZ2 := hide (fun a cap W h => for_n (l.map forF) l.length (List.length_map _) a cap W h hl)
  rw [twice for_once] at HZ2
  have HZS := hide (fun a b ca cb W h1 h2 => same_any (w := W) a b ca cb (l.map forF) l.length (List.length_map _) h1 h2 hl)
  have HXV := hide (fun W a (h : AttrsIn W a (l.map svgF)) i x hx => h.val svg_val (i := i) (x := x) hx)
  have HYV := hide (fun W a (h : AttrsIn W a (l.map mathF)) i x hx => h.val math_val (i := i) (x := x) hx)
  have HZV := hide (fun W a (h : AttrsIn W a (l.map forF)) i x hx => h.val for_val (i := i) (x := x) hx)
  generalize l.map svgF = mx at HX1 HX2 HXS HXV
  generalize l.map mathF = my at HY1 HY2 HYS HYV
  generalize l.map forF = mz at HZ1 HZ2 HZS HZV
  clear hin hS hl
  go_enter Tryd.func4, Tryd.ntmps4
  go_wp2_with (first
    | (go_at_call 10; have _x := unhide HB2; refine (unhide HE1 _).mono ?_; rintro e3 w3 ⟨rfl, hb⟩; have HB3 := hide ((unhide HB2).trans (hb.mono (unhide HB2).size)); clear hb)
    | (go_at_call 10; have _x := unhide HB1; refine (unhide HE2 _).mono ?_; rintro e2 w2 ⟨rfl, hb⟩; have HB2 := hide ((unhide HB1).trans (hb.mono (unhide HB1).size)); clear hb)
    | (go_at_call 10; refine (unhide HE1 _).mono ?_; rintro e1 w1 ⟨rfl, hb⟩; have HB1 := hide hb; clear hb)
    | (go_at_call 11; have _x := unhide HB6; refine (unhide HX2 _ _ _ (unhide HAX6)).mono ?_; rintro e7 w7 ⟨ax2, cx2, rfl, hat, hb⟩; have HB7 := hide ((unhide HB6).trans (hb.mono (unhide HB6).size)); have HAX7 := hide ((unhide HAX6).below hb); have HAX27 := hide hat; have HAY7 := hide ((unhide HAY6).below hb); have HAZ7 := hide ((unhide HAZ6).below hb); clear hat hb)
    | (go_at_call 11; refine (unhide HX1 _ _ _ ((unhide HIN).below (unhide HB3))).mono ?_; rintro e4 w4 ⟨ax, cx, rfl, hat, hb⟩; have HB4 := hide ((unhide HB3).trans (hb.mono (unhide HB3).size)); have HAX4 := hide hat; clear hat hb)
    | (go_at_call 12; have _x := unhide HB8; refine (unhide HY2 _ _ _ (unhide HAY8)).mono ?_; rintro e9 w9 ⟨ay2, cy2, rfl, hat, hb⟩; have HB9 := hide ((unhide HB8).trans (hb.mono (unhide HB8).size)); have HAX9 := hide ((unhide HAX8).below hb); have HAY29 := hide hat; have HAY9 := hide ((unhide HAY8).below hb); have HAZ9 := hide ((unhide HAZ8).below hb); clear hat hb)
    | (go_at_call 12; refine (unhide HY1 _ _ _ ((unhide HIN).below (unhide HB4))).mono ?_; rintro e5 w5 ⟨ay, cy, rfl, hat, hb⟩; have HB5 := hide ((unhide HB4).trans (hb.mono (unhide HB4).size)); have HAX5 := hide ((unhide HAX4).below hb); have HAY5 := hide hat; clear hat hb)
    | (go_at_call 7; have _x := unhide HBa; refine (unhide HZ2 _ _ _ (unhide HAZa) ((unhide HSP).below (unhide HBa))).mono ?_; rintro eb wb ⟨az2, cz2, rfl, hat, hb⟩; have HBb := hide ((unhide HBa).trans (hb.mono (unhide HBa).size)); have HAXb := hide ((unhide HAXa).below hb); have HAZ2b := hide hat; have HAYb := hide ((unhide HAYa).below hb); have HAZb := hide ((unhide HAZa).below hb); clear hat hb)
    | (go_at_call 7; refine (unhide HZ1 _ _ _ ((unhide HIN).below (unhide HB5)) ((unhide HSP).below (unhide HB5))).mono ?_; rintro e6 w6 ⟨az, cz, rfl, hat, hb⟩; have HB6 := hide ((unhide HB5).trans (hb.mono (unhide HB5).size)); have HAX6 := hide ((unhide HAX5).below hb); have HAY6 := hide ((unhide HAY5).below hb); have HAZ6 := hide hat; clear hat hb)
    | (go_at_call 6; have _x := unhide HBb; refine (unhide HZS _ _ _ _ _ (unhide HAZ2b) (unhide HAZb)).mono ?_; rintro ec wc ⟨rfl, hb⟩; have HBc := hide ((unhide HBb).trans (hb.mono (unhide HBb).size)); have HAXc := hide ((unhide HAXb).below hb); have HAYc := hide ((unhide HAYb).below hb); have HAZc := hide ((unhide HAZb).below hb); clear hb)
    | (go_at_call 6; have _x := unhide HB9; refine (unhide HYS _ _ _ _ _ (unhide HAY29) (unhide HAY9)).mono ?_; rintro ea wa ⟨rfl, hb⟩; have HBa := hide ((unhide HB9).trans (hb.mono (unhide HB9).size)); have HAXa := hide ((unhide HAX9).below hb); have HAYa := hide ((unhide HAY9).below hb); have HAZa := hide ((unhide HAZ9).below hb); clear hb)
    | (go_at_call 6; refine (unhide HXS _ _ _ _ _ (unhide HAX27) (unhide HAX7)).mono ?_; rintro e8 w8 ⟨rfl, hb⟩; have HB8 := hide ((unhide HB7).trans (hb.mono (unhide HB7).size)); have HAX8 := hide ((unhide HAX7).below hb); have HAY8 := hide ((unhide HAY7).below hb); have HAZ8 := hide ((unhide HAZ7).below hb); clear hb))
  go_loopg [8] l.length (fun k s8 wx => ∃ i : Nat, i + k = l.length ∧ s8 = .int .i64 i ∧ Below wc.heap.size wc wx)
  case atStart => exact ⟨0, by omega, rfl, Below.refl _ _⟩
  case round =>
    obtain ⟨i, hik, rfl, hb⟩ := hrel
    have HB := hide ((unhide HBc).trans (hb.mono (unhide HBc).size))
    have HBW := hide hb
    by_cases hil : i < l.length
    · have hiz : (i : Int) < (l.length : Int) := by omega
      obtain ⟨x, hx⟩ : ∃ x, l[i]? = some x := ⟨_, List.getElem?_eq_getElem hil⟩
      obtain ⟨b0, o0, rfl, _, _, _, c3⟩ := ((unhide HIN).below (unhide HB)).cells i x hx
      obtain ⟨b1, o1, rfl, x3⟩ := unhide HXV _ _ ((unhide HAXc).below hb) i x hx
      obtain ⟨b2, o2, rfl, y3⟩ := unhide HYV _ _ ((unhide HAYc).below hb) i x hx
      obtain ⟨b3, o3, rfl, z3⟩ := unhide HZV _ _ ((unhide HAZc).below hb) i x hx
      clear hb hx
      go_wp2
      go_quiet (fail)
      go_wp2
      go_roundg (gk - 1)
      case measure => omega
      case rel => exact ⟨i + 1, by omega, by go_num, below_dn (unhide HBW) _⟩
    · have hiz : ¬ (i : Int) < (l.length : Int) := by omega
      obtain rfl : i = l.length := by omega
      clear hb
      go_wp2_with (go_at_call 9; refine (awake_any _).mono ?_; rintro ef wf ⟨rfl, hb⟩; have HBf := hide ((unhide HB).trans (hb.mono (unhide HB).size)); clear hb)
      go_ret
      exact ⟨rfl, unhide HBf⟩
end Go.Proofs.YtgbinemombgckaaDoor
