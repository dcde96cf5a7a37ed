/-
  The document's Breaks; AdjustBreaks' walk.
-/
import Derived.Test.YtgbinemombgckaaBf
namespace Go.Proofs.Ytgbinemombgckaa
open Go.RowKit Go.Lib

theorem brk_L : brk.map (·.data.toList) = [[98], [98, 105, 103], [98, 108, 111, 99, 107, 113, 117, 111, 116, 101], [98, 111, 100, 121], [98, 114], [99, 101, 110, 116, 101, 114], [99, 111, 100, 101], [100, 100], [100, 105, 118], [100, 108], [100, 116], [101, 109], [101, 109, 98, 101, 100], [104, 49], [104, 50], [104, 51], [104, 52], [104, 53], [104, 54], [104, 101, 97, 100], [104, 114], [105], [105, 109, 103], [108, 105], [108, 105, 115, 116, 105, 110, 103], [109, 101, 110, 117], [109, 101, 116, 97], [110, 111, 98, 114], [111, 108], [112], [112, 114, 101], [114, 117, 98, 121], [115], [115, 109, 97, 108, 108], [115, 112, 97, 110], [115, 116, 114, 111, 110, 103], [115, 116, 114, 105, 107, 101], [115, 117, 98], [115, 117, 112], [116, 97, 98, 108, 101], [116, 116], [117], [117, 108], [118, 97, 114]] := rfl
theorem font_not (n : ByteArray) (h : (n.toList == [102, 111, 110, 116]) = true) : hasM brk n = false := by
  have h' : n.toList = [102, 111, 110, 116] := by simpa using h
  rw [L_has, brk_L, h']
  decide
theorem AttrsIn.nameOf {w : World} {b off : Nat} {l : List AttrM} (h : AttrsIn w (some ⟨b, off, none⟩) l) {i : Nat} {x : AttrM} (hx : l[i]? = some x) : w.cell? ⟨b, off + i * 4 + 2, none⟩ = some (.string x.name) := by
  obtain ⟨b', off', e, c0, _, c2, c3⟩ := h.cells i x hx
  cases e
  exact c2

section
variable (k : Int) (nm da sy : ByteArray) (hs : Int) (qk : Bool) (ch : Int) (se : Bool) (l : List AttrM) (a : Option Addr) (cap : Nat)

set_option maxHeartbeats 4000000 in
set_option maxRecDepth 10000 in
theorem rbreaks_font (w : World) (hn : (nm.toList == [102, 111, 110, 116]) = true) (hin : AttrsIn w a l) (hl : l.length * 56 ≤ 140737488351232) : Calls Try.prog 21 #[.agg #[.int .i64 1, .string nm, .string da, .string sy, .int .i64 hs, .bool qk, .int .i32 ch, .bool se, .slice a l.length cap]] w fun e w' => e = .returned (.bool (l.any fontM)) ∧ Below w.heap.size w w' := by
  have HIN := hide (hin.below (below_new w (.cells #[.int .i64 1, .string nm, .string da, .string sy, .int .i64 hs, .bool qk, .int .i32 ch, .bool se, .slice a l.length cap] 32)))
  have HT := hide (tok_new 1 nm da sy hs qk ch se a l.length cap w)
  have HB := hide (below_new w (.cells #[.int .i64 1, .string nm, .string da, .string sy, .int .i64 hs, .bool qk, .int .i32 ch, .bool se, .slice a l.length cap] 32))
  have hlz : (l.length : Int) ≤ 140737488355328 := by omega
  clear hin hl
  go_enter Try.func21, Try.ntmps21
  go_wp2
  generalize w.alloc (.cells #[.int .i64 1, .string nm, .string da, .string sy, .int .i64 hs, .bool qk, .int .i32 ch, .bool se, .slice a l.length cap] 32) = w0 at HT HB HIN
  obtain ⟨c1, c8⟩ := (unhide HT).c18
  go_loopg [3, 4] l.length (fun k s3 _ wx => ∃ j : Nat, j + k = l.length ∧ s3 = .int .i64 j ∧ wx = w0 ∧ (∀ i s, i < j → l[i]? = some s → fontM s = false))
  case atStart => exact ⟨0, by omega, rfl, rfl, fun i s hi => absurd hi (Nat.not_lt_zero _)⟩
  case round =>
    obtain ⟨j, hjg, rfl, rfl, hno⟩ := hrel
    have HN := hide hno
    clear hno
    by_cases hj : j < l.length
    · have hjz : (j : Int) < (l.length : Int) := by omega
      obtain ⟨x, hx⟩ : ∃ x, l[j]? = some x := ⟨_, List.getElem?_eq_getElem hj⟩
      obtain ⟨b, off, rfl⟩ := Addr.of_lt (unhide HIN) (Nat.lt_of_le_of_lt (Nat.zero_le _) hj)
      have c2 := (unhide HIN).nameOf hx
      have HX := hide hx
      clear hx
      cases hf : fontM x with
      | true =>
        have HA : Hid (l.any fontM = true) := hide (List.any_eq_true.2 ⟨x, List.mem_of_getElem? (unhide HX), hf⟩)
        have hf' := hf
        unfold fontM at hf'
        clear hf
        cases h1 : (x.name.toList == [99, 111, 108, 111, 114]) with
        | true =>
          clear hf'
          go_wp2
          go_ret
          exact ⟨by rw [unhide HA]; rfl, unhide HB⟩
        | false =>
          rw [h1, Bool.false_or] at hf'
          cases h2 : (x.name.toList == [102, 97, 99, 101]) with
          | true =>
            clear hf'
            go_wp2
            go_ret
            exact ⟨by rw [unhide HA]; rfl, unhide HB⟩
          | false =>
            rw [h2, Bool.false_or] at hf'
            go_wp2
            go_ret
            exact ⟨by rw [unhide HA]; rfl, unhide HB⟩
      | false =>
        have HS : Hid (∀ i s, i < j + 1 → l[i]? = some s → fontM s = false) := hide (fun i s hi hs => by
          by_cases e : i = j
          · subst e; rw [unhide HX] at hs; cases hs; exact hf
          · exact (unhide HN) i s (by omega) hs)
        have hf' := hf
        unfold fontM at hf'
        clear hf
        simp only [Bool.or_eq_false_iff] at hf'
        obtain ⟨⟨h1, h2⟩, h3⟩ := hf'
        go_wp2
        go_roundg (gk - 1)
        case measure => omega
        case rel => exact ⟨j + 1, by omega, by go_num, rfl, unhide HS⟩
    · have hjz : ¬ (j : Int) < (l.length : Int) := by omega
      obtain rfl : j = l.length := by omega
      have HA : Hid (l.any fontM = false) := hide (by
        rw [List.any_eq_false]
        intro s hs
        obtain ⟨i, hi⟩ := List.getElem?_of_mem hs
        rw [(unhide HN) i s (List.getElem?_eq_some_iff.1 hi).1 hi]
        exact Bool.false_ne_true)
      go_wp2
      go_ret
      exact ⟨by rw [unhide HA]; rfl, unhide HB⟩

set_option maxHeartbeats 4000000 in
set_option maxRecDepth 10000 in
theorem rbreaks_name (w : World) (hn : (nm.toList == [102, 111, 110, 116]) = false) : Calls Try.prog 21 #[.agg #[.int .i64 1, .string nm, .string da, .string sy, .int .i64 hs, .bool qk, .int .i32 ch, .bool se, .slice a l.length cap]] w fun e w' => e = .returned (.bool (hasM brk nm)) ∧ Below w.heap.size w w' := by
  have HT : Hid (hasM brk nm = ([[98], [98, 105, 103], [98, 108, 111, 99, 107, 113, 117, 111, 116, 101], [98, 111, 100, 121], [98, 114], [99, 101, 110, 116, 101, 114], [99, 111, 100, 101], [100, 100], [100, 105, 118], [100, 108], [100, 116], [101, 109], [101, 109, 98, 101, 100], [104, 49], [104, 50], [104, 51], [104, 52], [104, 53], [104, 54], [104, 101, 97, 100], [104, 114], [105], [105, 109, 103], [108, 105], [108, 105, 115, 116, 105, 110, 103], [109, 101, 110, 117], [109, 101, 116, 97], [110, 111, 98, 114], [111, 108], [112], [112, 114, 101], [114, 117, 98, 121], [115], [115, 109, 97, 108, 108], [115, 112, 97, 110], [115, 116, 114, 111, 110, 103], [115, 116, 114, 105, 107, 101], [115, 117, 98], [115, 117, 112], [116, 97, 98, 108, 101], [116, 116], [117], [117, 108], [118, 97, 114]] : List (List UInt8)).any fun x => nm.toList == x) := hide (by rw [L_has, brk_L])
  have HB := hide (below_new w (.cells #[.int .i64 1, .string nm, .string da, .string sy, .int .i64 hs, .bool qk, .int .i32 ch, .bool se, .slice a l.length cap] 32))
  go_enter Try.func21, Try.ntmps21
  go_wp2
  all_goals go_ret
  all_goals (refine ⟨?_, unhide HB⟩; rw [unhide HT]; first | (simp [*]; done) | (simp_all; done))

set_option maxHeartbeats 1000000 in
theorem rbreaks_any (w : World) (hin : AttrsIn w a l) (hl : l.length * 56 ≤ 140737488351232) : Calls Try.prog 21 #[.agg #[.int .i64 k, .string nm, .string da, .string sy, .int .i64 hs, .bool qk, .int .i32 ch, .bool se, .slice a l.length cap]] w fun e w' => e = .returned (.bool (brkM k nm l)) ∧ Below w.heap.size w w' := by
  by_cases h1 : k = 1
  · subst h1
    have hm : brkM 1 nm l = (hasM brk nm || (nm.toList == [102, 111, 110, 116] && l.any fontM)) := rfl
    rw [hm]
    cases hn : (nm.toList == [102, 111, 110, 116]) with
    | true =>
      rw [font_not nm hn, Bool.false_or, Bool.true_and]
      exact rbreaks_font nm da sy hs qk ch se l a cap w hn hin hl
    | false =>
      rw [Bool.false_and, Bool.or_false]
      exact rbreaks_name nm da sy hs qk ch se l a cap w hn
  · have h1b : (k == 1) = false := by simp [h1]
    have hm : brkM k nm l = if k == 2 then nm.toList == [98, 114] || nm.toList == [112] else false := by unfold brkM; rw [h1b, if_neg Bool.false_ne_true]
    rw [hm]
    clear hm hin hl
    by_cases h2 : k = 2
    · subst h2
      rw [show ((2 : Int) == 2) = true from rfl, if_pos rfl]
      clear h1 h1b
      cases hn : (nm.toList == [98, 114]) with
      | true =>
        go_enter Try.func21, Try.ntmps21
        go_wp2
        go_ret
        exact ⟨rfl, below_new w _⟩
      | false =>
        go_enter Try.func21, Try.ntmps21
        go_wp2
        go_ret
        exact ⟨rfl, below_new w _⟩
    · have h2b : (k == 2) = false := by simp [h2]
      have h1n : (k != 1) = true := by simp [h1]
      rw [h2b, if_neg Bool.false_ne_true]
      go_enter Try.func21, Try.ntmps21
      go_wp2
      go_ret
      exact ⟨rfl, below_new w _⟩

theorem TokAt.all {w : World} {B : Nat} {k : Int} {nm da sy : ByteArray} {hs : Int} {qk : Bool} {ch : Int} {se : Bool} {a : Option Addr} {len cap : Nat} (h : TokAt w B k nm da sy hs qk ch se a len cap) : w.cell? ⟨B, 0, none⟩ = some (.int .i64 k) ∧ w.cell? ⟨B, 1, none⟩ = some (.string nm) ∧ w.cell? ⟨B, 2, none⟩ = some (.string da) ∧ w.cell? ⟨B, 3, none⟩ = some (.string sy) ∧ w.cell? ⟨B, 4, none⟩ = some (.int .i64 hs) ∧ w.cell? ⟨B, 5, none⟩ = some (.bool qk) ∧ w.cell? ⟨B, 6, none⟩ = some (.int .i32 ch) ∧ w.cell? ⟨B, 7, none⟩ = some (.bool se) ∧ w.cell? ⟨B, 8, none⟩ = some (.slice a len cap) := ⟨h.c0, h.c1, h.c2, h.c3, h.c4, h.c5, h.c6, h.c7, h.c8⟩

set_option maxHeartbeats 4000000 in
theorem adjustBreaks_any (w : World) (hin : AttrsIn w a l) (hl : l.length * 56 ≤ 140737488351232) : Calls Try.prog 7 #[.agg #[.int .i64 k, .string nm, .string da, .string sy, .int .i64 hs, .bool qk, .int .i32 ch, .bool se, .slice a l.length cap]] w fun e w' => e = .returned (.bool true) ∧ Below w.heap.size w w' := by
  have H1 := hide (fun W (hW : Below w.heap.size w W) => breaks_any k nm da sy hs qk ch se l a cap W (hin.below hW) hl)
  have H2 := hide (fun W (hW : Below w.heap.size w W) => rbreaks_any k nm da sy hs qk ch se l a cap W (hin.below hW) hl)
  have H3 := hide (fun W => awake_any W)
  generalize brkM k nm l = r at H1 H2
  have hrr : (r == r) = true := by simp
  have HT := hide (tok_new k nm da sy hs qk ch se a l.length cap w)
  have HB := hide (below_new w (.cells #[.int .i64 k, .string nm, .string da, .string sy, .int .i64 hs, .bool qk, .int .i32 ch, .bool se, .slice a l.length cap] 32))
  clear hin hl
  go_enter Try.func7, Try.ntmps7
  go_wp2
  generalize w.alloc (.cells #[.int .i64 k, .string nm, .string da, .string sy, .int .i64 hs, .bool qk, .int .i32 ch, .bool se, .slice a l.length cap] 32) = w0 at HT HB
  obtain ⟨c0, c1, c2, c3, c4, c5, c6, c7, c8⟩ := (unhide HT).all
  have hund : undef = Value.tuple #[] := rfl
  first | go_region_with (first
    | (go_at_call 20; refine (unhide H1 _ (unhide HB).drew).mono ?_; rintro e w1 ⟨rfl, hb⟩; have HT1 := hide ((unhide HT).dr.below hb); obtain ⟨d0, d1, d2, d3, d4, d5, d6, d7, d8⟩ := (unhide HT1).all; have HB1 := hide ((unhide HB).drew.trans (hb.mono (unhide HB).size)); clear hb)
    | (go_at_call 21; refine (unhide H2 _ (unhide HB1)).mono ?_; rintro e w2 ⟨rfl, hb⟩; have HB2 := hide ((unhide HB1).trans (hb.mono (unhide HB1).size)); clear hb)
    | (go_at_call 10; refine (unhide H3 _).mono ?_; rintro e w3 ⟨rfl, hb⟩; have HB3 := hide ((unhide HB2).trans (hb.mono (unhide HB2).size)); clear hb)) | fail
  all_goals go_wp2
  all_goals go_ret
  all_goals exact ⟨rfl, unhide HB3⟩
end
end Go.Proofs.Ytgbinemombgckaa
