/-
  slices.Contains over texts, slices.IndexFunc over attributes; TextPoint and HTMLPoint, the program's and the document's; AdjustPoints' walk.
-/
import Derived.Test.YtgbinemombgckaaBc
import Derived.Test.YtgbinemombgckaaAd
import Derived.Test.YtgbinemombgckaaBo
namespace Go.Proofs.Ytgbinemombgckaa
open Go.RowKit Go.Lib

def hasM (l : List ByteArray) (n : ByteArray) : Bool := l.any fun x => n.toList == x.toList

set_option maxHeartbeats 1000000 in
theorem sindex_any (l : List ByteArray) (hl : l.length ≤ 1000) (n : ByteArray) (b : Nat) (w : World) (ht : TabAt w b l) :
    Calls Try.prog 42 #[.slice (some ⟨b, 0, none⟩) l.length l.length, .string n] w fun e w' => (∃ r : Int, e = .returned (.int .i64 r) ∧ decide (0 ≤ r) = hasM l n) ∧ w' = w := by
  unfold hasM
  have HT := hide ht
  have hlz : (l.length : Int) ≤ 1000 := by omega
  clear ht hl
  go_enter Try.func42, Try.ntmps42
  go_wp2
  go_loopg [5, 8] l.length (fun g _ s8 wr => ∃ j : Nat, j + g = l.length ∧ s8 = .int .i64 j ∧ wr = w ∧ (∀ i s, i < j → l[i]? = some s → (n.toList == s.toList) = false))
  case atStart => exact ⟨0, by omega, rfl, rfl, fun i s hi => absurd hi (Nat.not_lt_zero _)⟩
  case round =>
    obtain ⟨j, hjg, rfl, rfl, hno⟩ := hrel
    have HN := hide hno
    clear hno
    by_cases hj : j < l.length
    · have hjz : (j : Int) < (l.length : Int) := by omega
      obtain ⟨y, hy⟩ : ∃ y, l[j]? = some y := ⟨_, List.getElem?_eq_getElem hj⟩
      have hcell := (unhide HT).cells j y hy
      have HY := hide hy
      clear hy
      cases hq : (n.toList == y.toList) with
      | true =>
        have HQ := hide hq
        go_wp2
        go_ret
        refine ⟨⟨_, rfl, ?_⟩, rfl⟩
        rw [List.any_eq_true.2 ⟨y, List.mem_of_getElem? (unhide HY), unhide HQ⟩]
        exact decide_eq_true (by omega)
      | false =>
        have HQ := hide hq
        go_wp2
        go_roundg (gk - 1)
        case measure => omega
        case rel =>
          refine ⟨j + 1, by omega, by go_num, rfl, fun i s hi hs => ?_⟩
          by_cases e : i = j
          · subst e; rw [unhide HY] at hs; cases hs; exact unhide HQ
          · exact (unhide HN) i s (by omega) hs
    · have hjz : ¬ (j : Int) < (l.length : Int) := by omega
      obtain rfl : j = l.length := by omega
      go_wp2
      go_ret
      refine ⟨⟨_, rfl, ?_⟩, rfl⟩
      have : (l.any fun x => n.toList == x.toList) = false := by
        rw [List.any_eq_false]
        intro s hs
        obtain ⟨i, hi⟩ := List.getElem?_of_mem hs
        rw [(unhide HN) i s (List.getElem?_eq_some_iff.1 hi).1 hi]
        exact Bool.false_ne_true
      rw [this]
      rfl

theorem contains_any (l : List ByteArray) (hl : l.length ≤ 1000) (n : ByteArray) (b : Nat) (w : World) (ht : TabAt w b l) :
    Calls Try.prog 33 #[.slice (some ⟨b, 0, none⟩) l.length l.length, .string n] w fun e w' => e = .returned (.bool (hasM l n)) ∧ w' = w := by
  have HI := hide (sindex_any l hl n b w ht)
  clear hl ht
  generalize hasM l n = r at HI
  go_enter Try.func33, Try.ntmps33
  go_wp2_with (go_at_call 42; refine (unhide HI).mono ?_; rintro e w' ⟨⟨i, rfl, hi⟩, rfl⟩)
  go_ret
  exact ⟨by rw [← hi]; rfl, rfl⟩

theorem L_has (l : List ByteArray) (n : ByteArray) : hasM l n = (l.map (·.data.toList)).any fun x => n.toList == x := by
  unfold hasM
  rw [List.any_map]
  congr 1
  funext x
  simp [toList_data]

def textM (sp : Int) (n : ByteArray) : Bool := sp == 1 && hasM textP n
theorem textPoint_any (sp : Int) (n : ByteArray) (w : World) : Calls Try.prog 16 #[.int .i64 sp, .string n] w fun e w' => e = .returned (.bool (textM sp n)) ∧ Below w.heap.size w w' := by
  have HC : Hid (Calls Try.prog 33 #[.slice (some ⟨w.heap.size, 0, none⟩) 5 5, .string n] (w.alloc (.cells (sRow textP) 9)) fun e w' => e = .returned (.bool (hasM textP n)) ∧ w' = (w.alloc (.cells (sRow textP) 9))) := hide (contains_any textP (by decide) n w.heap.size _ (tab_new w textP))
  have HS := hide (textP_any w)
  have HB := hide (below_new w (.cells (sRow textP) 9))
  unfold textM
  generalize hasM textP n = r at HC
  generalize w.alloc (.cells (sRow textP) 9) = w1 at HC HS HB
  cases h1 : (sp == 1) with
  | true =>
    go_enter Try.func16, Try.ntmps16
    go_wp2_with (first | (go_at_call 34; refine (unhide HS).mono ?_; rintro e w' ⟨rfl, rfl⟩) | (go_at_call 33; refine (unhide HC).mono ?_; rintro e w' ⟨rfl, rfl⟩))
    go_ret
    exact ⟨rfl, unhide HB⟩
  | false =>
    go_enter Try.func16, Try.ntmps16
    go_wp2
    go_ret
    exact ⟨rfl, Below.refl _ w⟩

theorem textP_L : textP.map (·.data.toList) = [[109, 105], [109, 111], [109, 110], [109, 115], [109, 116, 101, 120, 116]] := rfl
set_option maxHeartbeats 1000000 in
theorem rtextPoint_any (sp : Int) (n : ByteArray) (w : World) : Calls Try.prog 17 #[.int .i64 sp, .string n] w fun e w' => e = .returned (.bool (textM sp n)) ∧ Below w.heap.size w w' := by
  have HT : Hid (textM sp n = (sp == 1 && ([[109, 105], [109, 111], [109, 110], [109, 115], [109, 116, 101, 120, 116]] : List (List UInt8)).any fun x => n.toList == x)) := hide (by unfold textM; rw [L_has, textP_L])
  go_enter Try.func17, Try.ntmps17
  go_wp2
  all_goals go_ret
  all_goals (refine ⟨?_, Below.refl _ w⟩; rw [unhide HT]; first | (simp [*]; done) | (simp_all; done))

/-- slices.IndexFunc over attributes. -/
def findA (p : AttrM → Bool) (l : List AttrM) : Option AttrM := l.find? p
theorem findA_at {p : AttrM → Bool} {l : List AttrM} {j : Nat} {y : AttrM} (hy : l[j]? = some y) (hp : p y = true) (hno : ∀ i s, i < j → l[i]? = some s → p s = false) : findA p l = some y := by
  unfold findA
  induction l generalizing j with
  | nil => simp at hy
  | cons a l ih =>
    cases j with
    | zero => simp at hy; subst hy; simp [hp]
    | succ j =>
      have h0 := hno 0 a (by omega) rfl
      rw [List.find?_cons, h0]
      exact ih (j := j) (by simpa using hy) (fun i s hi hs => hno (i + 1) s (by omega) (by simpa using hs))
theorem findA_none {p : AttrM → Bool} {l : List AttrM} (hno : ∀ i s, i < l.length → l[i]? = some s → p s = false) : findA p l = none := by
  unfold findA
  rw [List.find?_eq_none]
  intro s hs
  obtain ⟨i, hi⟩ := List.getElem?_of_mem hs
  rw [hno i s (List.getElem?_eq_some_iff.1 hi).1 hi]
  exact Bool.false_ne_true

set_option maxHeartbeats 1000000 in
theorem aindex_any (p : AttrM → Bool) (g : Nat) (eg : ∀ args w, (callFunc g args).run Try.prog w = .ok (.enter g args) w) (l : List AttrM) (a : Option Addr) (cap : Nat) (w : World) (hin : AttrsIn w a l) (hl : l.length * 56 ≤ 140737488351232)
    (hp : ∀ W x, Calls Try.prog g #[.agg #[.int .i64 x.space, .string x.pre, .string x.name, .string x.val]] W fun e w' => e = .returned (.bool (p x)) ∧ Below W.heap.size W w') :
    Calls Try.prog 43 #[.slice a l.length cap, .func (.func g) #[] #[]] w fun e w' => ((∃ (i : Nat) (x : AttrM), e = .returned (.int .i64 i) ∧ l[i]? = some x ∧ findA p l = some x) ∨ (e = .returned (.int .i64 (-1)) ∧ findA p l = none)) ∧ Below w.heap.size w w' := by
  have HP := hide hp
  have HIN := hide hin
  have hlz : (l.length : Int) ≤ 140737488355328 := by omega
  clear hp hin hl
  go_enter Try.func43, Try.ntmps43
  go_wp2
  go_loopg [5, 8] l.length (fun k _ s8 wr => ∃ j : Nat, j + k = l.length ∧ s8 = .int .i64 j ∧ Below w.heap.size w wr ∧ (∀ i s, i < j → l[i]? = some s → p s = false))
  case atStart => exact ⟨0, by omega, rfl, Below.refl _ w, fun i s hi => absurd hi (Nat.not_lt_zero _)⟩
  case round =>
    obtain ⟨j, hjg, rfl, hb, hno⟩ := hrel
    have HN := hide hno
    have HB := hide hb
    clear hno
    by_cases hj : j < l.length
    · have hjz : (j : Int) < (l.length : Int) := by omega
      obtain ⟨x, hx⟩ : ∃ x, l[j]? = some x := ⟨_, List.getElem?_eq_getElem hj⟩
      obtain ⟨b, off, rfl, c0, c1, c2, c3⟩ := ((unhide HIN).below hb).cells j x hx
      have hcall := fun W => (unhide HP) W x
      have HX := hide hx
      clear hx hb
      cases hq : p x with
      | true =>
        rw [hq] at hcall
        have HQ := hide hq
        clear hq
        go_wp2_with (go_at_fn g; refine (hcall _).mono ?_; rintro e w' ⟨rfl, hb'⟩; have HB' := hide ((unhide HB).trans (hb'.mono (unhide HB).size)); clear hb')
        go_ret
        exact ⟨.inl ⟨j, x, rfl, unhide HX, findA_at (unhide HX) (unhide HQ) (unhide HN)⟩, unhide HB'⟩
      | false =>
        rw [hq] at hcall
        have HQ := hide hq
        clear hq
        go_wp2_with (go_at_fn g; refine (hcall _).mono ?_; rintro e w' ⟨rfl, hb'⟩; have HB' := hide ((unhide HB).trans (hb'.mono (unhide HB).size)); clear hb')
        go_roundg (gk - 1)
        case measure => omega
        case rel =>
          refine ⟨j + 1, by omega, by go_num, unhide HB', fun i s hi hs => ?_⟩
          by_cases e : i = j
          · subst e; rw [unhide HX] at hs; cases hs; exact unhide HQ
          · exact (unhide HN) i s (by omega) hs
    · have hjz : ¬ (j : Int) < (l.length : Int) := by omega
      obtain rfl : j = l.length := by omega
      clear hb
      go_wp2
      go_ret
      exact ⟨.inr ⟨rfl, findA_none (unhide HN)⟩, unhide HB⟩

theorem AttrsIn.at3 {w : World} {b off : Nat} {l : List AttrM} (h : AttrsIn w (some ⟨b, off, none⟩) l) {i : Nat} {x : AttrM} (hx : l[i]? = some x) : w.cell? ⟨b, off + i * 4 + 3, none⟩ = some (.string x.val) := by
  obtain ⟨b', off', e, _, _, _, c3⟩ := h.cells i x hx
  cases e
  exact c3
def encS : ByteArray := ⟨#[101, 110, 99, 111, 100, 105, 110, 103]⟩
def txtS : ByteArray := ⟨#[116, 101, 120, 116, 47, 104, 116, 109, 108]⟩
def xhtS : ByteArray := ⟨#[97, 112, 112, 108, 105, 99, 97, 116, 105, 111, 110, 47, 120, 104, 116, 109, 108, 43, 120, 109, 108]⟩
def holdsM (l : List AttrM) : Bool := match findA (fun x => isName x encS) l with | some x => isM x.val txtS || isM x.val xhtS | none => false

theorem isEnc_any (x : AttrM) (w : World) : Calls Try.prog 44 #[.agg #[.int .i64 x.space, .string x.pre, .string x.name, .string x.val]] w fun e w' => e = .returned (.bool (isName x encS)) ∧ Below w.heap.size w w' := by
  have hg := guardA
  have hq := fun W => eqBare x encS W
  have HB0 := hide (below_new w (.cells #[.int .i64 x.space, .string x.pre, .string x.name, .string x.val] 38))
  generalize isName x encS = r at hq
  unfold encS at hq
  go_enter Try.func44, Try.ntmps44
  go_wp2_with (first
    | (go_at_call 31; refine (bare_any x _).mono ?_; rintro e w1 ⟨rfl, hb1⟩; have HB1 := hide ((unhide HB0).trans (hb1.mono (unhide HB0).size)); clear hb1)
    | (go_at_call 32; refine (plain_any _ _).mono ?_; rintro e w2 ⟨rfl, hb2⟩; have HB2 := hide ((unhide HB1).trans (hb2.mono (unhide HB1).size)); clear hb2))
  go_ret
  exact ⟨rfl, unhide HB2⟩

theorem ascT : Ascii txtS := by
  intro b hb
  have : txtS.data.toList.all (fun b => decide (b.toNat < 128)) = true := by decide +kernel
  exact of_decide_eq_true (List.all_eq_true.1 this b hb)
theorem ascX : Ascii xhtS := by
  intro b hb
  have : xhtS.data.toList.all (fun b => decide (b.toNat < 128)) = true := by decide +kernel
  exact of_decide_eq_true (List.all_eq_true.1 this b hb)

set_option maxHeartbeats 1000000 in
theorem holdsHTML_any (l : List AttrM) (a : Option Addr) (cap : Nat) (w : World) (hin : AttrsIn w a l) (hl : l.length * 56 ≤ 140737488351232) :
    Calls Try.prog 35 #[.slice a l.length cap] w fun e w' => e = .returned (.bool (holdsM l)) ∧ Below w.heap.size w w' := by
  have HI := hide (aindex_any (fun x => isName x encS) 44 (enters_of Try.func44 (by kernel_rfl) rfl) l a cap w hin hl (fun W x => isEnc_any x W))
  have HIN := hide hin
  have hlz : (l.length : Int) ≤ 140737488355328 := by omega
  have HT := hide (fun s W => inSmall_any s txtS W (.inr ascT))
  have HX := hide (fun s W => inSmall_any s xhtS W (.inr ascX))
  obtain ⟨T, hT⟩ : ∃ T : ByteArray → Bool, (fun s => isM s txtS) = T := ⟨_, rfl⟩
  obtain ⟨X, hX⟩ : ∃ X : ByteArray → Bool, (fun s => isM s xhtS) = X := ⟨_, rfl⟩
  have HT2 : Hid (∀ s W, Calls Try.prog 41 #[.string s, .string ⟨#[116, 101, 120, 116, 47, 104, 116, 109, 108]⟩] W fun e w' => e = .returned (.bool (T s)) ∧ Below W.heap.size W w') := hide (by rw [← hT]; exact unhide HT)
  have HX2 : Hid (∀ s W, Calls Try.prog 41 #[.string s, .string ⟨#[97, 112, 112, 108, 105, 99, 97, 116, 105, 111, 110, 47, 120, 104, 116, 109, 108, 43, 120, 109, 108]⟩] W fun e w' => e = .returned (.bool (X s)) ∧ Below W.heap.size W w') := hide (by rw [← hX]; exact unhide HX)
  have HM : Hid (holdsM l = match findA (fun x => isName x encS) l with | some x => T x.val || X x.val | none => false) := hide (by rw [← hT, ← hX]; rfl)
  clear hin hl HT HX hT hX
  rw [unhide HM]
  clear HM
  cases ho : findA (fun x => isName x encS) l with
  | none =>
    rw [ho] at HI
    have HI2 : Hid (Calls Try.prog 43 #[.slice a l.length cap, .func (.func 44) #[] #[]] w fun e w' => e = .returned (.int .i64 (-1)) ∧ Below w.heap.size w w') := hide ((unhide HI).mono fun e w' ⟨h, hb⟩ => ⟨h.elim (fun ⟨_, _, _, _, h⟩ => by cases h) (fun h => h.1), hb⟩)
    clear HI ho
    go_enter Try.func35, Try.ntmps35
    go_wp2_with (go_at_call 43; refine (unhide HI2).mono ?_; rintro e w1 ⟨rfl, hb1⟩; have HB1 := hide hb1; clear hb1)
    go_ret
    exact ⟨rfl, unhide HB1⟩
  | some x =>
    rw [ho] at HI
    have HI2 : Hid (Calls Try.prog 43 #[.slice a l.length cap, .func (.func 44) #[] #[]] w fun e w' => ∃ i : Nat, e = .returned (.int .i64 i) ∧ l[i]? = some x ∧ Below w.heap.size w w') := hide ((unhide HI).mono fun e w' ⟨h, hb⟩ => h.elim (fun ⟨i, y, h1, h2, h3⟩ => ⟨i, h1, by cases h3; exact h2, hb⟩) (fun h => by cases h.2))
    have hpos : 0 < l.length := by
      cases l with
      | nil => cases ho
      | cons _ _ => simp
    obtain ⟨b, off, rfl⟩ := Addr.of_lt (unhide HIN) hpos
    clear HI ho hpos
    have hT1 := (unhide HT2) x.val
    have hX1 := (unhide HX2) x.val
    clear HT2 HX2
    show Calls _ _ _ _ fun e w' => e = .returned (.bool (T x.val || X x.val)) ∧ _
    generalize X x.val = bx at hX1
    have HX1 := hide hX1
    clear hX1
    cases hT : T x.val with
    | true =>
      rw [hT] at hT1
      have HT1 := hide hT1
      clear hT1 hT
      go_enter Try.func35, Try.ntmps35
      go_wp2_with (first
        | (go_at_call 43; refine (unhide HI2).mono ?_; rintro e w1 ⟨i, rfl, hx, hb1⟩; have hil := (List.getElem?_eq_some_iff.1 hx).1; have hiz : (i : Int) < (l.length : Int) := (by omega); have hi0 : ¬ (i : Int) < 0 := (by omega); have hcell := ((unhide HIN).below hb1).at3 hx; have HB1 := hide hb1; clear hb1 hx hil)
        | (go_at_call 41; refine (unhide HT1 _).mono ?_; rintro e w2 ⟨rfl, hb2⟩; have HB2 := hide ((unhide HB1).trans (hb2.mono (unhide HB1).size)); clear hb2))
      go_ret
      exact ⟨rfl, unhide HB2⟩
    | false =>
      rw [hT] at hT1
      have HT1 := hide hT1
      clear hT1 hT
      go_enter Try.func35, Try.ntmps35
      go_wp2_with (first
        | (go_at_call 43; refine (unhide HI2).mono ?_; rintro e w1 ⟨i, rfl, hx, hb1⟩; have hil := (List.getElem?_eq_some_iff.1 hx).1; have hiz : (i : Int) < (l.length : Int) := (by omega); have hi0 : ¬ (i : Int) < 0 := (by omega); have hcell := ((unhide HIN).below hb1).at3 hx; have HB1 := hide hb1; have HX := hide hx; clear hb1 hx hil)
        | (go_at_call 41; have _x := unhide HB2; refine (unhide HX1 _).mono ?_; rintro e w3 ⟨rfl, hb3⟩; have HB3 := hide ((unhide HB2).trans (hb3.mono (unhide HB2).size)); clear hb3)
        | (go_at_call 41; refine (unhide HT1 _).mono ?_; rintro e w2 ⟨rfl, hb2⟩; have HB2 := hide ((unhide HB1).trans (hb2.mono (unhide HB1).size)); have hcell2 := ((unhide HIN).below (unhide HB2)).at3 (unhide HX); clear hb2))
      go_ret
      exact ⟨rfl, unhide HB3⟩
end Go.Proofs.Ytgbinemombgckaa
