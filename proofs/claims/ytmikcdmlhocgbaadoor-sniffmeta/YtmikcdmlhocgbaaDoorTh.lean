/-
  Package sniff's Mark, the document's Mark; the walk of SniffMarks.
-/
import Derived.Test.YtmikcdmlhocgbaaDoorTg
namespace Go.Proofs.YtmikcdmlhocgbaaDoor
open Go.RowKit Go.Lib

theorem equal_any (v1 v2 : Value) (x y : List UInt8) (w : World) (h1 : (convert 22 9 v1).run Tryd.prog w = .ok (.string ⟨x.toArray⟩) w) (h2 : (convert 22 9 v2).run Tryd.prog w = .ok (.string ⟨y.toArray⟩) w) :
    Calls Tryd.prog 38 #[v1, v2] w fun e w' => e = .returned (.bool (decide (x = y))) ∧ w' = w := by
  have HE : Hid (((⟨x.toArray⟩ : ByteArray).toList == (⟨y.toArray⟩ : ByteArray).toList) = decide (x = y)) := hide (by rw [ByteArray.toList_mk, ByteArray.toList_mk]; exact beq_dec x y)
  generalize (⟨x.toArray⟩ : ByteArray) = bx at h1 HE
  generalize (⟨y.toArray⟩ : ByteArray) = bY at h2 HE
  rw [← unhide HE]
  go_enter Tryd.func38, Tryd.ntmps38
  go_wp2
  go_ret
  exact ⟨rfl, rfl⟩

theorem back_any {W : World} {g cap : Nat} {l : List UInt8} {k : Nat} (h : BytesIn W (some ⟨g, 0, none⟩) l) (hk : k ≤ l.length) : (convert 22 9 (.slice (some ⟨g, 0, none⟩) k cap)).run Tryd.prog W = .ok (.string ⟨(l.take k).toArray⟩) W := by
  have hlen : (l.take k).length = k := by rw [List.length_take]; omega
  have := run_convert_bytes_back (P := Tryd.prog) W 22 9 5 ⟨g, 0, none⟩ cap (l.take k) Tryd.underlying22 Tryd.underlying5 Tryd.underlying9 (fun j hj => by
    obtain ⟨b', off', e, hcell⟩ := h.cells j (l.take k)[j] (by rw [List.getElem_take, List.getElem?_eq_getElem])
    cases e
    have ad : (⟨g, 0, none⟩ : Addr).add j = ⟨g, 0 + j, none⟩ := by unfold Addr.add; split <;> simp_all
    rw [ad, hcell])
  rw [hlen] at this
  exact this

theorem hasPrefix_any (w : World) (g pb cap : Nat) (l x : List UInt8) (hb : BytesIn w (some ⟨g, 0, none⟩) l) (hx : BytesIn w (some ⟨pb, 0, none⟩) x) (hc : l.length ≤ cap) :
    Calls Tryd.prog 19 #[.slice (some ⟨g, 0, none⟩) l.length cap, .slice (some ⟨pb, 0, none⟩) x.length x.length] w fun e w' => e = .returned (.bool (decide (l.take x.length = x))) ∧ w' = w := by
  by_cases hl : x.length ≤ l.length
  · have h2 : (convert 22 9 (.slice (some ⟨pb, 0, none⟩) x.length x.length)).run Tryd.prog w = .ok (.string ⟨x.toArray⟩) w := by
      have := back_any (cap := x.length) hx (Nat.le_refl _)
      rwa [List.take_length] at this
    have HE := hide (equal_any _ _ _ _ w (back_any (cap := cap) hb hl) h2)
    have hlz : (x.length : Int) ≤ (l.length : Int) := by omega
    have hcz : (x.length : Int) ≤ (cap : Int) := by omega
    have hcn : x.length ≤ cap := by omega
    generalize decide (l.take x.length = x) = q at HE ⊢
    generalize x.length = nx at *
    generalize l.length = nl at *
    clear hb hx h2 hl hc
    go_enter Tryd.func19, Tryd.ntmps19
    go_wp2_with (go_at_call 38; refine (unhide HE).mono ?_; rintro e w1 ⟨rfl, rfl⟩)
    go_ret
    exact ⟨rfl, rfl⟩
  · have hlz : ¬ (x.length : Int) ≤ (l.length : Int) := by omega
    have HE : Hid (decide (l.take x.length = x) = false) := hide (by
      rw [decide_eq_false_iff_not]
      intro e
      have := congrArg List.length e
      rw [List.length_take] at this
      omega)
    rw [unhide HE]
    clear HE hb hx hc hl
    generalize x.length = nx at *
    generalize l.length = nl at *
    go_enter Tryd.func19, Tryd.ntmps19
    go_wp2
    go_ret
    exact ⟨rfl, rfl⟩

def markM (l : List UInt8) : Int × Int × Int := if l.take 2 = [255, 254] then (1, 2, 0) else if l.take 2 = [254, 255] then (2, 2, 0) else if l.take 3 = [239, 187, 191] then (0, 3, 0) else (0, 0, 6)

theorem BytesIn.alloc {w : World} {a : Option Addr} {l : List UInt8} (h : BytesIn w a l) (o : Obj) : BytesIn (w.alloc o) a l := h.below ((Below.refl _ w).alloc (Nat.le_refl _) o)
theorem two_new (w : World) (p q : UInt8) : BytesIn (w.alloc (.cells #[.int .u8 (p.toNat : Int), .int .u8 (q.toNat : Int)] 5)) (some ⟨w.heap.size, 0, none⟩) [p, q] := bytes_new w [p, q] (0, 0)
theorem three_new (w : World) (p q r : UInt8) : BytesIn (w.alloc (.cells #[.int .u8 (p.toNat : Int), .int .u8 (q.toNat : Int), .int .u8 (r.toNat : Int)] 5)) (some ⟨w.heap.size, 0, none⟩) [p, q, r] := bytes_new w [p, q, r] (0, 0)

theorem pre2 (w : World) (g cap : Nat) (l : List UInt8) (p q : UInt8) (P Q : Int) (B : Nat) (hP : (p.toNat : Int) = P) (hQ : (q.toNat : Int) = Q) (hB : w.heap.size = B) (hb : BytesIn w (some ⟨g, 0, none⟩) l) (hc : l.length ≤ cap) :
    Calls Tryd.prog 19 #[.slice (some ⟨g, 0, none⟩) l.length cap, .slice (some ⟨B, 0, none⟩) 2 2] (w.alloc (.cells #[.int .u8 P, .int .u8 Q] 5)) fun e w' => e = .returned (.bool (decide (l.take 2 = [p, q]))) ∧ w' = w.alloc (.cells #[.int .u8 P, .int .u8 Q] 5) := by
  subst hP hQ hB
  exact hasPrefix_any _ g w.heap.size cap l [p, q] (hb.alloc _) (two_new w p q) hc
theorem pre3 (w : World) (g cap : Nat) (l : List UInt8) (p q r : UInt8) (P Q R : Int) (B : Nat) (hP : (p.toNat : Int) = P) (hQ : (q.toNat : Int) = Q) (hR : (r.toNat : Int) = R) (hB : w.heap.size = B) (hb : BytesIn w (some ⟨g, 0, none⟩) l) (hc : l.length ≤ cap) :
    Calls Tryd.prog 19 #[.slice (some ⟨g, 0, none⟩) l.length cap, .slice (some ⟨B, 0, none⟩) 3 3] (w.alloc (.cells #[.int .u8 P, .int .u8 Q, .int .u8 R] 5)) fun e w' => e = .returned (.bool (decide (l.take 3 = [p, q, r]))) ∧ w' = w.alloc (.cells #[.int .u8 P, .int .u8 Q, .int .u8 R] 5) := by
  subst hP hQ hR hB
  exact hasPrefix_any _ g w.heap.size cap l [p, q, r] (hb.alloc _) (three_new w p q r) hc

set_option maxHeartbeats 1000000 in
theorem mark_any (w : World) (g cap : Nat) (l : List UInt8) (hb : BytesIn w (some ⟨g, 0, none⟩) l) (hc : l.length ≤ cap) :
    Calls Tryd.prog 10 #[.slice (some ⟨g, 0, none⟩) l.length cap] w fun e w' => e = .returned (.tuple #[.int .i64 (markM l).1, .int .i64 (markM l).2.1, .int .i64 (markM l).2.2]) ∧ Below w.heap.size w w' := by
  have H1 := hide (pre2 w g cap l 255 254 255 254 w.heap.size rfl rfl rfl hb hc)
  have H2 := hide (pre2 (w.alloc (.cells #[.int .u8 255, .int .u8 254] 5)) g cap l 254 255 254 255 (w.heap.size + 1) rfl rfl (by simp) (hb.alloc _) hc)
  have H3 := hide (pre3 ((w.alloc (.cells #[.int .u8 255, .int .u8 254] 5)).alloc (.cells #[.int .u8 254, .int .u8 255] 5)) g cap l 239 187 191 239 187 191 (w.heap.size + 1 + 1) rfl rfl rfl (by simp) ((hb.alloc _).alloc _) hc)
  have HB1 := hide ((Below.refl w.heap.size w).alloc (Nat.le_refl _) (.cells #[.int .u8 255, .int .u8 254] 5))
  have HB2 := hide ((unhide HB1).alloc (by simp) (.cells #[.int .u8 254, .int .u8 255] 5))
  have HB3 := hide ((unhide HB2).alloc (by simp; omega) (.cells #[.int .u8 239, .int .u8 187, .int .u8 191] 5))
  unfold markM
  clear hb hc
  by_cases h1 : l.take 2 = [255, 254]
  · rw [if_pos h1]
    rw [decide_eq_true h1] at H1
    clear H2 H3 h1
    generalize l.length = nl at *
    go_enter Tryd.func10, Tryd.ntmps10
    go_wp2_with (go_at_call 19; refine (unhide H1).mono ?_; rintro e w1 ⟨rfl, rfl⟩)
    go_ret3
    exact ⟨rfl, unhide HB1⟩
  · rw [if_neg h1]
    rw [decide_eq_false h1] at H1
    by_cases h2 : l.take 2 = [254, 255]
    · rw [if_pos h2]
      rw [decide_eq_true h2] at H2
      clear H3 h1 h2
      generalize l.length = nl at *
      go_enter Tryd.func10, Tryd.ntmps10
      go_wp2_with (first
        | (go_at_call 19; have _x := unhide HX1; refine (unhide H2).mono ?_; rintro e w1 ⟨rfl, rfl⟩)
        | (go_at_call 19; refine (unhide H1).mono ?_; rintro e w1 ⟨rfl, rfl⟩; have HX1 := hide True.intro))
      go_ret3
      exact ⟨rfl, unhide HB2⟩
    · rw [if_neg h2]
      rw [decide_eq_false h2] at H2
      by_cases h3 : l.take 3 = [239, 187, 191]
      · rw [if_pos h3]
        rw [decide_eq_true h3] at H3
        clear h1 h2 h3
        generalize l.length = nl at *
        go_enter Tryd.func10, Tryd.ntmps10
        go_wp2_with (first
          | (go_at_call 19; have _x := unhide HX2; refine (unhide H3).mono ?_; rintro e w1 ⟨rfl, rfl⟩)
          | (go_at_call 19; have _x := unhide HX1; refine (unhide H2).mono ?_; rintro e w1 ⟨rfl, rfl⟩; have HX2 := hide True.intro)
          | (go_at_call 19; refine (unhide H1).mono ?_; rintro e w1 ⟨rfl, rfl⟩; have HX1 := hide True.intro))
        go_ret3
        exact ⟨rfl, unhide HB3⟩
      · rw [if_neg h3]
        rw [decide_eq_false h3] at H3
        clear h1 h2 h3
        generalize l.length = nl at *
        go_enter Tryd.func10, Tryd.ntmps10
        go_wp2_with (first
          | (go_at_call 19; have _x := unhide HX2; refine (unhide H3).mono ?_; rintro e w1 ⟨rfl, rfl⟩)
          | (go_at_call 19; have _x := unhide HX1; refine (unhide H2).mono ?_; rintro e w1 ⟨rfl, rfl⟩; have HX2 := hide True.intro)
          | (go_at_call 19; refine (unhide H1).mono ?_; rintro e w1 ⟨rfl, rfl⟩; have HX1 := hide True.intro))
        go_ret3
        exact ⟨rfl, unhide HB3⟩
end Go.Proofs.YtmikcdmlhocgbaaDoor
