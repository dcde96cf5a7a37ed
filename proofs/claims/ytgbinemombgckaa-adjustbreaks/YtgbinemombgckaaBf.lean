/-
  slices.ContainsFunc over attributes; Breaks, the program's and the document's; AdjustBreaks' walk.
-/
import Derived.Test.YtgbinemombgckaaBe
import Derived.Deep.RegionHeld3
namespace Go.Proofs.Ytgbinemombgckaa
open Go.RowKit Go.Lib

/-- A token in a block of its own. -/
structure TokAt (w : World) (B : Nat) (k : Int) (nm da sy : ByteArray) (hs : Int) (qk : Bool) (ch : Int) (se : Bool) (a : Option Addr) (len cap : Nat) : Prop where
  c0 : w.cell? ⟨B, 0, none⟩ = some (.int .i64 k)
  c1 : w.cell? ⟨B, 1, none⟩ = some (.string nm)
  c2 : w.cell? ⟨B, 2, none⟩ = some (.string da)
  c3 : w.cell? ⟨B, 3, none⟩ = some (.string sy)
  c4 : w.cell? ⟨B, 4, none⟩ = some (.int .i64 hs)
  c5 : w.cell? ⟨B, 5, none⟩ = some (.bool qk)
  c6 : w.cell? ⟨B, 6, none⟩ = some (.int .i32 ch)
  c7 : w.cell? ⟨B, 7, none⟩ = some (.bool se)
  c8 : w.cell? ⟨B, 8, none⟩ = some (.slice a len cap)
  lt : B < w.heap.size

section
variable (k : Int) (nm da sy : ByteArray) (hs : Int) (qk : Bool) (ch : Int) (se : Bool) (a : Option Addr) (len cap : Nat)

theorem tok_new (w : World) : TokAt (w.alloc (.cells #[.int .i64 k, .string nm, .string da, .string sy, .int .i64 hs, .bool qk, .int .i32 ch, .bool se, .slice a len cap] 32)) w.heap.size k nm da sy hs qk ch se a len cap := by
  refine ⟨?_, ?_, ?_, ?_, ?_, ?_, ?_, ?_, ?_, by simp⟩ <;> rw [cell_row _ w.heap.size _ _ _ _ (heap_alloc_new w _)] <;> rfl
theorem TokAt.below {w w' : World} {B : Nat} {k : Int} {nm da sy : ByteArray} {hs : Int} {qk : Bool} {ch : Int} {se : Bool} {a : Option Addr} {len cap : Nat} (h : TokAt w B k nm da sy hs qk ch se a len cap) (hb : Below w.heap.size w w') : TokAt w' B k nm da sy hs qk ch se a len cap :=
  ⟨(hb.cell (p := ⟨B, 0, none⟩) h.lt).trans h.c0, (hb.cell (p := ⟨B, 1, none⟩) h.lt).trans h.c1, (hb.cell (p := ⟨B, 2, none⟩) h.lt).trans h.c2, (hb.cell (p := ⟨B, 3, none⟩) h.lt).trans h.c3, (hb.cell (p := ⟨B, 4, none⟩) h.lt).trans h.c4, (hb.cell (p := ⟨B, 5, none⟩) h.lt).trans h.c5, (hb.cell (p := ⟨B, 6, none⟩) h.lt).trans h.c6, (hb.cell (p := ⟨B, 7, none⟩) h.lt).trans h.c7, (hb.cell (p := ⟨B, 8, none⟩) h.lt).trans h.c8, Nat.lt_of_lt_of_le h.lt hb.size⟩
theorem TokAt.c18 {w : World} {B : Nat} {k : Int} {nm da sy : ByteArray} {hs : Int} {qk : Bool} {ch : Int} {se : Bool} {a : Option Addr} {len cap : Nat} (h : TokAt w B k nm da sy hs qk ch se a len cap) : w.cell? ⟨B, 1, none⟩ = some (.string nm) ∧ w.cell? ⟨B, 8, none⟩ = some (.slice a len cap) := ⟨h.c1, h.c8⟩
theorem TokAt.dr {w : World} {B : Nat} {k : Int} {nm da sy : ByteArray} {hs : Int} {qk : Bool} {ch : Int} {se : Bool} {a : Option Addr} {len cap : Nat} (h : TokAt w B k nm da sy hs qk ch se a len cap) : TokAt w.drew B k nm da sy hs qk ch se a len cap := ⟨h.c0, h.c1, h.c2, h.c3, h.c4, h.c5, h.c6, h.c7, h.c8, h.lt⟩
end
def fontM (x : AttrM) : Bool := x.name.toList == [99, 111, 108, 111, 114] || x.name.toList == [102, 97, 99, 101] || x.name.toList == [115, 105, 122, 101]
theorem isOfFont_any (x : AttrM) (w : World) : Calls Try.prog 40 #[.agg #[.int .i64 x.space, .string x.pre, .string x.name, .string x.val]] w fun e w' => e = .returned (.bool (fontM x)) ∧ Below w.heap.size w w' := by
  unfold fontM
  go_enter Try.func40, Try.ntmps40
  go_wp2
  all_goals go_ret
  all_goals (refine ⟨?_, below_new w _⟩; first | rfl | (simp [*]; done) | (simp_all; done))

theorem any_find (p : AttrM → Bool) (l : List AttrM) : l.any p = (findA p l).isSome := by
  unfold findA
  induction l with
  | nil => rfl
  | cons x l ih =>
    rw [List.any_cons, List.find?_cons, ih]
    cases p x <;> rfl
theorem acontains_any (p : AttrM → Bool) (g : Nat) (eg : ∀ args w, (callFunc g args).run Try.prog w = .ok (.enter g args) w) (l : List AttrM) (a : Option Addr) (cap : Nat) (w : World) (hin : AttrsIn w a l) (hl : l.length * 56 ≤ 140737488351232)
    (hp : ∀ W x, Calls Try.prog g #[.agg #[.int .i64 x.space, .string x.pre, .string x.name, .string x.val]] W fun e w' => e = .returned (.bool (p x)) ∧ Below W.heap.size W w') :
    Calls Try.prog 39 #[.slice a l.length cap, .func (.func g) #[] #[]] w fun e w' => e = .returned (.bool (l.any p)) ∧ Below w.heap.size w w' := by
  have HI0 := hide (aindex_any p g eg l a cap w hin hl hp)
  rw [any_find]
  have HI : Hid (Calls Try.prog 43 #[.slice a l.length cap, .func (.func g) #[] #[]] w fun e w' => ∃ i : Int, e = .returned (.int .i64 i) ∧ decide (0 ≤ i) = (findA p l).isSome ∧ Below w.heap.size w w') := hide ((unhide HI0).mono fun e w' ⟨h, hb⟩ => h.elim (fun ⟨i, y, h1, h2, h3⟩ => ⟨i, h1, by rw [h3]; exact decide_eq_true (by omega), hb⟩) (fun ⟨h1, h2⟩ => ⟨-1, h1, by rw [h2]; rfl, hb⟩))
  clear HI0 hin hl hp
  generalize (findA p l).isSome = r at HI
  go_enter Try.func39, Try.ntmps39
  go_wp2_with (go_at_call 43; refine (unhide HI).mono ?_; rintro e w' ⟨i, rfl, hi, hb⟩; have HB := hide hb; clear hb)
  go_ret
  exact ⟨by rw [← hi]; rfl, unhide HB⟩

def brkM (k : Int) (n : ByteArray) (l : List AttrM) : Bool := if k == 1 then hasM brk n || (n.toList == [102, 111, 110, 116] && l.any fontM) else if k == 2 then n.toList == [98, 114] || n.toList == [112] else false

theorem breaking_any (w : World) : Calls Try.prog 38 #[] w fun e w' => ∃ tb, e = .returned (.slice (some ⟨tb, 0, none⟩) 44 44) ∧ TabAt w' tb brk ∧ Below w.heap.size w w' :=
  (brk_any w).mono fun e w' ⟨h1, h2⟩ => ⟨w.heap.size, h1, by rw [h2]; exact tab_new w brk, by rw [h2]; exact below_new w _⟩

section
variable (k : Int) (nm da sy : ByteArray) (hs : Int) (qk : Bool) (ch : Int) (se : Bool) (l : List AttrM) (a : Option Addr) (cap : Nat)

set_option maxHeartbeats 4000000 in
theorem breaks_1 (w : World) (hin : AttrsIn w a l) (hl : l.length * 56 ≤ 140737488351232) (r : Bool) (hr : brkM 1 nm l = r) : Calls Try.prog 20 #[.agg #[.int .i64 1, .string nm, .string da, .string sy, .int .i64 hs, .bool qk, .int .i32 ch, .bool se, .slice a l.length cap]] w fun e w' => e = .returned (.bool r) ∧ Below w.heap.size w w' := by
  have hm : brkM 1 nm l = (hasM brk nm || (nm.toList == [102, 111, 110, 116] && l.any fontM)) := rfl
  rw [hm] at hr
  clear hm
  have HC := hide (fun tb W (hW : TabAt W tb brk) => contains_any brk (by decide) nm tb W hW)
  have hle : brk.length = 44 := rfl
  rw [hle] at HC
  have HF := hide (fun W (hW : Below w.heap.size w W) => acontains_any fontM 40 (enters_of Try.func40 (by kernel_rfl) rfl) l a cap W (hin.below hW) hl (fun W x => isOfFont_any x W))
  have HT := hide (tok_new 1 nm da sy hs qk ch se a l.length cap w)
  have HB := hide (below_new w (.cells #[.int .i64 1, .string nm, .string da, .string sy, .int .i64 hs, .bool qk, .int .i32 ch, .bool se, .slice a l.length cap] 32))
  clear hin hl hle
  generalize l.any fontM = f at HF hr
  cases hh : hasM brk nm with
  | true =>
    rw [hh] at HC hr
    simp at hr
    subst hr
    clear HF hh
    go_enter Try.func20, Try.ntmps20
    go_wp2
    generalize w.alloc (.cells #[.int .i64 1, .string nm, .string da, .string sy, .int .i64 hs, .bool qk, .int .i32 ch, .bool se, .slice a l.length cap] 32) = w0 at HT HB
    obtain ⟨c1, c8⟩ := (unhide HT).c18
    have hund : undef = Value.tuple #[] := rfl
    first | go_region_with (first
      | (go_at_call 38; refine (breaking_any _).mono ?_; rintro e w1 ⟨tb, rfl, ht, hb⟩; have HTB := hide ht; obtain ⟨d1, d8⟩ := ((unhide HT).dr.below hb).c18; have HB1 := hide ((unhide HB).drew.trans (hb.mono (unhide HB).size)); clear ht hb)
      | (go_at_call 33; refine (unhide HC _ _ (unhide HTB)).mono ?_; rintro e w2 ⟨rfl, rfl⟩)) | fail
    all_goals go_wp2
    all_goals go_ret
    all_goals exact ⟨rfl, unhide HB1⟩
  | false =>
    rw [hh] at HC hr
    clear hh
    cases hn : (nm.toList == [102, 111, 110, 116]) with
    | false =>
      rw [hn] at hr
      simp at hr
      subst hr
      clear HF
      go_enter Try.func20, Try.ntmps20
      go_wp2
      generalize w.alloc (.cells #[.int .i64 1, .string nm, .string da, .string sy, .int .i64 hs, .bool qk, .int .i32 ch, .bool se, .slice a l.length cap] 32) = w0 at HT HB
      obtain ⟨c1, c8⟩ := (unhide HT).c18
      have hund : undef = Value.tuple #[] := rfl
      first | go_region_with (first
        | (go_at_call 38; refine (breaking_any _).mono ?_; rintro e w1 ⟨tb, rfl, ht, hb⟩; have HTB := hide ht; obtain ⟨d1, d8⟩ := ((unhide HT).dr.below hb).c18; have HB1 := hide ((unhide HB).drew.trans (hb.mono (unhide HB).size)); clear ht hb)
        | (go_at_call 33; refine (unhide HC _ _ (unhide HTB)).mono ?_; rintro e w2 ⟨rfl, rfl⟩)) | fail
      all_goals go_wp2
      all_goals go_ret
      all_goals exact ⟨rfl, unhide HB1⟩
    | true =>
      rw [hn] at hr
      simp at hr
      subst hr
      go_enter Try.func20, Try.ntmps20
      go_wp2
      generalize w.alloc (.cells #[.int .i64 1, .string nm, .string da, .string sy, .int .i64 hs, .bool qk, .int .i32 ch, .bool se, .slice a l.length cap] 32) = w0 at HT HB
      obtain ⟨c1, c8⟩ := (unhide HT).c18
      have hund : undef = Value.tuple #[] := rfl
      first | go_region_with (first
        | (go_at_call 38; refine (breaking_any _).mono ?_; rintro e w1 ⟨tb, rfl, ht, hb⟩; have HTB := hide ht; obtain ⟨d1, d8⟩ := ((unhide HT).dr.below hb).c18; have HB1 := hide ((unhide HB).drew.trans (hb.mono (unhide HB).size)); clear ht hb)
        | (go_at_call 33; refine (unhide HC _ _ (unhide HTB)).mono ?_; rintro e w2 ⟨rfl, rfl⟩)
        | (go_at_call 39; refine (unhide HF _ (unhide HB1)).mono ?_; rintro e w3 ⟨rfl, hb⟩; have HB3 := hide ((unhide HB1).trans (hb.mono (unhide HB1).size)); clear hb)) | fail
      all_goals go_wp2
      all_goals go_ret
      all_goals exact ⟨rfl, unhide HB3⟩

set_option maxHeartbeats 1000000 in
theorem breaks_any (w : World) (hin : AttrsIn w a l) (hl : l.length * 56 ≤ 140737488351232) : Calls Try.prog 20 #[.agg #[.int .i64 k, .string nm, .string da, .string sy, .int .i64 hs, .bool qk, .int .i32 ch, .bool se, .slice a l.length cap]] w fun e w' => e = .returned (.bool (brkM k nm l)) ∧ Below w.heap.size w w' := by
  by_cases h1 : k = 1
  · subst h1
    exact breaks_1 nm da sy hs qk ch se l a cap w hin hl _ rfl
  · have h1b : (k == 1) = false := by simp [h1]
    have hm : brkM k nm l = if k == 2 then nm.toList == [98, 114] || nm.toList == [112] else false := by unfold brkM; rw [h1b, if_neg Bool.false_ne_true]
    rw [hm]
    clear hm hin hl
    by_cases h2 : k = 2
    · subst h2
      rw [show ((2 : Int) == 2) = true from rfl, if_pos rfl]
      clear h1 h1b
      cases hn : (nm.toList == [98, 114]) with
      | true =>
        go_enter Try.func20, Try.ntmps20
        go_wp2
        go_ret
        exact ⟨rfl, below_new w _⟩
      | false =>
        go_enter Try.func20, Try.ntmps20
        go_wp2
        go_ret
        exact ⟨rfl, below_new w _⟩
    · have h2b : (k == 2) = false := by simp [h2]
      rw [h2b, if_neg Bool.false_ne_true]
      go_enter Try.func20, Try.ntmps20
      go_wp2
      go_ret
      exact ⟨rfl, below_new w _⟩
end
end Go.Proofs.Ytgbinemombgckaa
