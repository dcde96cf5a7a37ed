/-
  The document's side of package edit: what each call answers and leaves.
-/
import Derived.Test.YtnclnijlpchdnaaGreatE0
import Derived.Test.YtnclnijlpchdnaaGreatRfM
import Derived.Test.YtnclnijlpchdnaaGreatPlM
import Derived.Test.YtnclnijlpchdnaaGreatE4
namespace Go.Proofs.YtnclnijlpchdnaaGreat
open Go.RowKit

theorem some_yes {os : List OneM} {l : List Nat} {kd : Int} {fr to j x : Nat} (h1 : fr ≤ j) (h2 : j < to) (hx : l[j]? = some x) (hk : kindO os (x : Int) = kd) : someO os kd ((l.take to).drop fr) = true := by
  unfold someO
  rw [List.any_eq_true]
  refine ⟨x, List.mem_iff_getElem?.2 ⟨j - fr, ?_⟩, by simpa using hk⟩
  rw [List.getElem?_drop, List.getElem?_take, if_pos (by omega), show fr + (j - fr) = j by omega]
  exact hx
theorem some_no {os : List OneM} {l : List Nat} {kd : Int} {fr to : Nat} (h : ∀ i x, fr ≤ i → i < to → l[i]? = some x → kindO os (x : Int) ≠ kd) : someO os kd ((l.take to).drop fr) = false := by
  unfold someO
  rw [List.any_eq_false]
  intro x hx
  obtain ⟨i, hi⟩ := List.mem_iff_getElem?.1 hx
  rw [List.getElem?_drop, List.getElem?_take] at hi
  split at hi
  · simpa using h (fr + i) x (by omega) (by assumption) hi
  · cases hi

theorem take_all (p : Nat → Bool) : ∀ (l : List Nat) x, x ∈ l.takeWhile p → p x = true
  | [], x, h => by simp at h
  | y :: l, x, h => by
    rw [List.takeWhile_cons] at h
    split at h
    · rcases List.mem_cons.1 h with rfl | h
      · assumption
      · exact take_all p l x h
    · simp at h

section
variable {w : World} {base bR g cap : Nat} {rs : List OneR}

set_option maxHeartbeats 2000000 in
theorem refSome_any (h : Rf w base bR g cap rs) (r0 : OneR) (h0 : rs[0]? = some r0) (kd : Int) (fr to : Nat) (hft : fr ≤ to) (hto : to ≤ r0.o.kids.length) (hk : r0.o.kids.length ≤ 32768) (hin : ∀ x ∈ r0.o.kids, x < rs.length) :
    Calls Tryz.prog 75 #[.pointer (some ⟨bR, 0, none⟩), .int .i64 kd, .int .i64 fr, .int .i64 to] w fun e w' => e = .returned (.bool (someO (osOf rs) kd ((r0.o.kids.take to).drop fr))) ∧ Below w.heap.size w w' := by
  have hAr := h.cR
  have hn := h.most
  have hlt0 : 0 < rs.length := (List.getElem?_eq_some_iff.1 h0).1
  have c9 := (h.cells10 h0).2.2.2.2.2.2.2.2.2
  obtain ⟨a, cp, hkv, hints, hkl⟩ := h.kids 0 r0 h0
  rw [hkv] at c9
  simp only [Nat.zero_mul, Nat.zero_add] at c9
  have HH := hide h
  have HIN := hide hin
  have HI := hide hints
  generalize r0.o.kids = ks at *
  clear h h0 hkv hin hints
  have hnz : (0 : Int) < (rs.length : Int) := by omega
  go_enter Tryz.func75, Tryz.ntmps75
  go_wp2
  go_loopg [10] (to - fr) (fun k s wx => ∃ j : Nat, s = .int .i64 j ∧ fr ≤ j ∧ j + k = to ∧ (∀ i x, fr ≤ i → i < j → ks[i]? = some x → kindO (osOf rs) (x : Int) ≠ kd) ∧ Below w.heap.size w wx)
  case atStart => exact ⟨fr, rfl, Nat.le_refl _, by omega, fun i x h1 h2 => absurd h2 (by omega), Below.refl _ _⟩
  case round =>
    obtain ⟨j, rfl, hfj, hjk, hno, hb⟩ := hrel
    have HNO := hide hno
    have HB := hide hb
    by_cases hj : j < to
    · have hjz : (j : Int) < (to : Int) := by omega
      have hjl : (j : Int) < (ks.length : Int) := by omega
      have hx : ks[j]? = some ks[j] := List.getElem?_eq_getElem (by omega)
      generalize ks[j] = x at hx
      obtain ⟨ba, off, rfl, hc⟩ := ((unhide HI).below hb).cells j x hx
      have hxl := (unhide HIN) x (List.mem_of_getElem? hx)
      have hxz : (x : Int) < (rs.length : Int) := by omega
      have hr : rs[x]? = some rs[x] := List.getElem?_eq_getElem hxl
      have hW := (unhide HH).below hb
      have d0 := (hW.cells10 hr).1
      have hA2 := hW.cR
      have hkind : kindO (osOf rs) (x : Int) = rs[x].o.kind := kindO_of (osOf_get hr)
      have HX := hide hx
      have HKD := hide hkind
      generalize rs[x].o.kind = kx at d0 HKD hkind
      clear hx hno hb hW hr hkind
      by_cases e : kx = kd
      · have he : (kx == kd) = true := by simpa using e
        subst e
        go_wp2
        go_quiet (fail)
        go_wp2
        go_ret
        exact ⟨by rw [some_yes hfj hj (unhide HX) (unhide HKD)]; rfl, below_dn (unhide HB) _⟩
      · have he : (kx == kd) = false := by simpa using e
        go_wp2
        go_quiet (fail)
        go_wp2
        go_roundg (gk - 1)
        case measure => omega
        case rel =>
          refine ⟨j + 1, by go_num, by omega, by omega, fun i y h1 h2 hy => ?_, below_dn (unhide HB) _⟩
          by_cases e2 : i = j
          · subst e2; rw [unhide HX] at hy; cases hy; rw [unhide HKD]; exact e
          · exact (unhide HNO) i y h1 (by omega) hy
    · have hjz : ¬ (j : Int) < (to : Int) := by omega
      clear hno hb
      go_wp2
      go_ret
      exact ⟨by rw [some_no (fun i x h1 h2 hx => (unhide HNO) i x h1 (by omega) hx)]; rfl, unhide HB⟩

set_option maxHeartbeats 2000000 in
theorem refWhere_any (h : Rf w base bR g cap rs) (r0 : OneR) (h0 : rs[0]? = some r0) (b : Int) (hk : r0.o.kids.length ≤ 32768) :
    Calls Tryz.prog 100 #[.pointer (some ⟨bR, 0, none⟩), .int .i64 b] w fun e w' => e = .returned (.int .i64 (r0.o.kids.takeWhile fun (x : Nat) => (x : Int) != b).length) ∧ Below w.heap.size w w' := by
  have hAr := h.cR
  have hn := h.most
  have hlt0 : 0 < rs.length := (List.getElem?_eq_some_iff.1 h0).1
  have c9 := (h.cells10 h0).2.2.2.2.2.2.2.2.2
  obtain ⟨a, cp, hkv, hints, hkl⟩ := h.kids 0 r0 h0
  rw [hkv] at c9
  simp only [Nat.zero_mul, Nat.zero_add] at c9
  obtain ⟨k, hk1, hk2, _, hk4⟩ := cut_at r0.o.kids b
  have hlen : (r0.o.kids.takeWhile fun (x : Nat) => (x : Int) != b).length = k := by rw [hk2]; simp; omega
  rw [hlen]
  have hpre : ∀ i x, i < k → r0.o.kids[i]? = some x → (x : Int) ≠ b := by
    intro i x hi hx
    have hm : x ∈ r0.o.kids.takeWhile fun (x : Nat) => (x : Int) != b := by
      rw [hk2]
      refine List.mem_iff_getElem?.2 ⟨i, ?_⟩
      rw [List.getElem?_take, if_pos hi]; exact hx
    simpa using take_all _ _ x hm
  have hat : ∀ x, r0.o.kids[k]? = some x → (x : Int) = b := by
    intro x hx
    have hkl : k < r0.o.kids.length := (List.getElem?_eq_some_iff.1 hx).1
    rcases hk4 with e | ⟨_, e⟩
    · unfold idxZ at e
      split at e
      · rename_i m hm
        obtain ⟨hm1, hm2, _⟩ := List.findIdx?_eq_some_iff_getElem.1 hm
        obtain rfl : m = k := by omega
        simp at hm2
        rw [← hm2]
        have := (List.getElem?_eq_some_iff.1 hx).2
        rw [this]
      · omega
    · omega
  have HPRE := hide hpre
  have HAT := hide hat
  have HI := hide hints
  generalize r0.o.kids = ks at *
  clear h h0 hkv hints hk2 hk4 hlen hpre hat
  have hnz : (0 : Int) < (rs.length : Int) := by omega
  go_enter Tryz.func100, Tryz.ntmps100
  go_wp2
  go_loopg [6] k (fun m s wx => ∃ j : Nat, s = .int .i64 j ∧ j + m = k ∧ Below w.heap.size w wx)
  case atStart => exact ⟨0, rfl, by omega, Below.refl _ _⟩
  case round =>
    obtain ⟨j, rfl, hjk, hb⟩ := hrel
    have HB := hide hb
    by_cases hj : j < ks.length
    · have hjl : (j : Int) < (ks.length : Int) := by omega
      have hx : ks[j]? = some ks[j] := List.getElem?_eq_getElem (by omega)
      generalize ks[j] = x at hx
      obtain ⟨ba, off, rfl, hc⟩ := ((unhide HI).below hb).cells j x hx
      by_cases hjk2 : j = k
      · have e := (unhide HAT) x (hjk2 ▸ hx)
        subst e
        subst hjk2
        have he : ((x : Int) == (x : Int)) = true := by simp
        clear hx hb
        go_wp2
        go_ret
        exact ⟨rfl, unhide HB⟩
      · have e := (unhide HPRE) j x (by omega) hx
        have he : ((x : Int) == b) = false := by simpa using e
        clear hx hb
        go_wp2
        go_roundg (gk - 1)
        case measure => omega
        case rel => exact ⟨j + 1, by go_num, by omega, unhide HB⟩
    · have hjl : ¬ (j : Int) < (ks.length : Int) := by omega
      obtain rfl : k = ks.length := by omega
      obtain rfl : j = ks.length := by omega
      clear hb
      go_wp2
      go_ret
      exact ⟨rfl, unhide HB⟩
end
end Go.Proofs.YtnclnijlpchdnaaGreat

namespace Go.Proofs.YtnclnijlpchdnaaGreat
open Go.RowKit

theorem drop_while (p : Nat → Bool) (l : List Nat) : l.dropWhile p = l.drop (l.takeWhile p).length := by
  induction l with
  | nil => rfl
  | cons x l ih =>
    rw [List.dropWhile_cons, List.takeWhile_cons]
    split
    · simpa using ih
    · simp
theorem while_le (p : Nat → Bool) (l : List Nat) : (l.takeWhile p).length ≤ l.length := by
  induction l with
  | nil => simp
  | cons x l ih =>
    rw [List.takeWhile_cons]
    split
    · simpa using ih
    · simp
theorem take_while (p : Nat → Bool) (l : List Nat) : l.takeWhile p = l.take (l.takeWhile p).length := by
  induction l with
  | nil => rfl
  | cons x l ih =>
    rw [List.takeWhile_cons]
    split
    · simpa using ih
    · simp

/-- What the document's rules ask of its children. -/
structure RulesQ (w : World) (bR : Nat) (os : List OneM) (b : Int) : Prop where
  len : ∀ W, Below w.heap.size w W → ∃ g cap n a cp, W.cell? ⟨bR, 0, none⟩ = some (.slice (some ⟨g, 0, none⟩) n cap) ∧ W.cell? ⟨g, 9, none⟩ = some (.slice a (kidsO os 0).length cp) ∧ 0 < n ∧ n ≤ 32768 ∧ bR ≠ g
  all : ∀ W kd, Below w.heap.size w W → Calls Tryz.prog 75 #[.pointer (some ⟨bR, 0, none⟩), .int .i64 kd, .int .i64 0, .int .i64 (kidsO os 0).length] W fun e w' => e = .returned (.bool (someO os kd (kidsO os 0))) ∧ Below w.heap.size w w'
  behind : ∀ W kd, Below w.heap.size w W → Calls Tryz.prog 75 #[.pointer (some ⟨bR, 0, none⟩), .int .i64 kd, .int .i64 (aheadO os b).length, .int .i64 (kidsO os 0).length] W fun e w' => e = .returned (.bool (someO os kd (behindO os b))) ∧ Below w.heap.size w w'
  ahead : ∀ W kd, Below w.heap.size w W → Calls Tryz.prog 75 #[.pointer (some ⟨bR, 0, none⟩), .int .i64 kd, .int .i64 0, .int .i64 (aheadO os b).length] W fun e w' => e = .returned (.bool (someO os kd (aheadO os b))) ∧ Below w.heap.size w w'
  place : ∀ W, Below w.heap.size w W → Calls Tryz.prog 100 #[.pointer (some ⟨bR, 0, none⟩), .int .i64 b] W fun e w' => e = .returned (.int .i64 (aheadO os b).length) ∧ Below w.heap.size w w'
  few : (kidsO os 0).length ≤ 32768

theorem rulesQ {w : World} {base bR : Nat} {os : List OneM} {G : Nat → Prop} {ns : List NodeM} (hS : RfS w base bR os G) (hs : Sim ns os) (b : Int) : RulesQ w bR os b := by
  obtain ⟨g, cap, rs, h, rfl, _⟩ := hS
  have hpos : 0 < rs.length := h.pos
  have h0 : rs[0]? = some rs[0] := List.getElem?_eq_getElem hpos
  have hk0 : kidsO (osOf rs) 0 = rs[0].o.kids := by have := kidsO_of (osOf_get h0); simpa using this
  have hin : ∀ x ∈ rs[0].o.kids, x < rs.length := fun x hx => by
    have := kids_lt hs 0 x (by rw [hk0]; exact hx)
    rw [osOf_len] at this; exact this
  have hm := h.most
  have hfew : (kidsO (osOf rs) 0).length ≤ 32768 := by
    have hK := hs.kids 0 _ (osOf_get h0)
    have := List.Nodup.length_le_of_subset hK.nodup (l₂ := List.range rs.length) (fun x hx => List.mem_range.2 (hin x hx))
    simp at this
    rw [hk0]; omega
  have hfew' : rs[0].o.kids.length ≤ 32768 := by rw [← hk0]; exact hfew
  have eB : behindO (osOf rs) b = rs[0].o.kids.drop (aheadO (osOf rs) b).length := by unfold behindO aheadO; rw [hk0]; exact drop_while _ _
  have eA : aheadO (osOf rs) b = rs[0].o.kids.take (aheadO (osOf rs) b).length := by unfold aheadO; rw [hk0]; exact take_while _ _
  have hAl : (aheadO (osOf rs) b).length ≤ rs[0].o.kids.length := by unfold aheadO; rw [hk0]; exact while_le _ _
  refine ⟨fun W hW => ?_, fun W kd hW => ?_, fun W kd hW => ?_, fun W kd hW => ?_, fun W hW => ?_, hfew⟩
  · have h' := h.below hW
    obtain ⟨a, cp, hkv, _, _⟩ := h'.kids 0 _ h0
    have c9 := (h'.cells10 h0).2.2.2.2.2.2.2.2.2
    rw [hkv] at c9
    simp only [Nat.zero_mul, Nat.zero_add] at c9
    exact ⟨g, cap, rs.length, a, cp, h'.cR, by rw [hk0]; exact c9, hpos, hm, h'.neRg⟩
  · have := refSome_any (h.below hW) _ h0 kd 0 rs[0].o.kids.length (by omega) (Nat.le_refl _) hfew' hin
    rw [hk0]
    simp only [List.take_length, List.drop_zero] at this
    exact this.mono fun e w' ⟨h1, h2⟩ => ⟨h1, hW.trans (h2.mono hW.size)⟩
  · have := refSome_any (h.below hW) _ h0 kd (aheadO (osOf rs) b).length rs[0].o.kids.length hAl (Nat.le_refl _) hfew' hin
    rw [List.take_length, ← eB] at this
    rw [hk0]
    exact this.mono fun e w' ⟨h1, h2⟩ => ⟨h1, hW.trans (h2.mono hW.size)⟩
  · have := refSome_any (h.below hW) _ h0 kd 0 (aheadO (osOf rs) b).length (by omega) hAl hfew' hin
    rw [List.drop_zero, ← eA] at this
    exact this.mono fun e w' ⟨h1, h2⟩ => ⟨h1, hW.trans (h2.mono hW.size)⟩
  · have := refWhere_any (h.below hW) _ h0 b hfew'
    have e : (rs[0].o.kids.takeWhile fun (x : Nat) => (x : Int) != b) = aheadO (osOf rs) b := by unfold aheadO; rw [hk0]
    rw [e] at this
    exact this.mono fun e w' ⟨h1, h2⟩ => ⟨h1, hW.trans (h2.mono hW.size)⟩

section
variable {w : World} {bR : Nat} {os : List OneM} {b : Int}
set_option maxHeartbeats 2000000 in
theorem refElementRule (hQ : RulesQ w bR os b) :
    Calls Tryz.prog 99 #[.pointer (some ⟨bR, 0, none⟩), .int .i64 b] w fun e w' => e = .returned (.bool (elemM os b)) ∧ Below w.heap.size w w' := by
  obtain ⟨g, cap, n, a, cp, c0, c9, hn0, hn1, hne⟩ := hQ.len w (Below.refl _ _)
  have hfew := hQ.few
  have HQ := hide hQ
  have hnz : (0 : Int) < (n : Int) := by omega
  unfold elemM
  have HA := hide (hQ.all w 1 (Below.refl _ _))
  have HP := hide hQ.place
  have HB := hide hQ.behind
  clear hQ
  generalize someO os 1 (kidsO os 0) = v1 at HA ⊢
  generalize (kidsO os 0).length = m at *
  cases v1
  · go_enter Tryz.func99, Tryz.ntmps99
    go_wp2_with (first
      | (have _x := unhide HB5; go_at_call 75; refine ((unhide HB) _ _ (unhide HB5)).mono ?_; rintro e w6 ⟨rfl, hb⟩; have HB6 := hide hb; clear hb)
      | (go_at_call 100; refine ((unhide HP) _ (unhide HB4)).mono ?_; rintro e w5 ⟨rfl, hb⟩; have HB5 := hide hb; clear hb)
      | (go_at_call 75; refine (unhide HA).mono ?_; rintro e w4 ⟨rfl, hb⟩; have HB4 := hide hb; clear hb))
    go_ret
    exact ⟨by simp, unhide HB6⟩
  · go_enter Tryz.func99, Tryz.ntmps99
    go_wp2_with (first
      | (go_at_call 75; refine (unhide HA).mono ?_; rintro e w4 ⟨rfl, hb⟩; have HB4 := hide hb; clear hb))
    go_ret
    exact ⟨by simp, unhide HB4⟩
end
end Go.Proofs.YtnclnijlpchdnaaGreat

namespace Go.Proofs.YtnclnijlpchdnaaGreat
open Go.RowKit

/-- How the document's arena is read. -/
structure NodesAt (W : World) (bR : Nat) (os : List OneM) (g cap : Nat) : Prop where
  row : W.cell? ⟨bR, 0, none⟩ = some (.slice (some ⟨g, 0, none⟩) os.length cap)
  kind : ∀ x, x < os.length → W.cell? ⟨g, x * 10, none⟩ = some (.int .i64 (kindO os x))
  space : ∀ x, x < os.length → W.cell? ⟨g, x * 10 + 1, none⟩ = some (.int .i64 (spaceO os x))
  up : ∀ x, x < os.length → W.cell? ⟨g, x * 10 + 8, none⟩ = some (.int .i64 (upIO os x))
  kids : ∀ x, x < os.length → ∃ a cp, W.cell? ⟨g, x * 10 + 9, none⟩ = some (.slice a (kidsO os x).length cp) ∧ IntsIn W a (kidsO os x)
  most : os.length ≤ 32768
  pos : 0 < os.length
  ne : bR ≠ g

theorem nodesAt {w : World} {base bR : Nat} {os : List OneM} {G : Nat → Prop} (hS : RfS w base bR os G) : ∃ g cap, ∀ W, Below w.heap.size w W → NodesAt W bR os g cap := by
  obtain ⟨g, cap, rs, h, rfl, _⟩ := hS
  refine ⟨g, cap, fun W hW => ?_⟩
  have h' := h.below hW
  have hl := osOf_len rs
  have get : ∀ x, x < (osOf rs).length → ∃ r, rs[x]? = some r := fun x hx => ⟨_, List.getElem?_eq_getElem (by omega)⟩
  refine ⟨by rw [hl]; exact h'.cR, fun x hx => ?_, fun x hx => ?_, fun x hx => ?_, fun x hx => ?_, by rw [hl]; exact h.most, by rw [hl]; exact h.pos, h'.neRg⟩
  · obtain ⟨r, hr⟩ := get x hx
    rw [kindO_of (osOf_get hr)]
    exact (h'.cells10 hr).1
  · obtain ⟨r, hr⟩ := get x hx
    rw [show spaceO (osOf rs) (x : Int) = r.o.space by simp [spaceO, osOf_get hr]]
    exact (h'.cells10 hr).2.1
  · obtain ⟨r, hr⟩ := get x hx
    rw [upIO_of (osOf_get hr)]
    exact (h'.cells10 hr).2.2.2.2.2.2.2.2.1
  · obtain ⟨r, hr⟩ := get x hx
    rw [kidsO_of (osOf_get hr)]
    obtain ⟨a, cp, hkv, hin, _⟩ := h'.kids x r hr
    have c9 := (h'.cells10 hr).2.2.2.2.2.2.2.2.2
    rw [hkv] at c9
    exact ⟨a, cp, c9, hin⟩

theorem some_take {os : List OneM} {l : List Nat} {j x : Nat} (h : l[j]? = some x) (kd : Int) : someO os kd (l.take (j + 1)) = (someO os kd (l.take j) || kindO os (x : Int) == kd) := by
  obtain ⟨hj, e⟩ := List.getElem?_eq_some_iff.1 h
  rw [List.take_succ_eq_append_getElem hj, someO_app, e]
  simp [someO]
theorem some_mem {os : List OneM} {l : List Nat} {j x : Nat} (h : l[j]? = some x) {kd : Int} (hk : kindO os (x : Int) = kd) : someO os kd l = true := by
  unfold someO
  rw [List.any_eq_true]
  exact ⟨x, List.mem_of_getElem? h, by simpa using hk⟩

section
variable {w : World} {bR : Nat} {os : List OneM} {b : Int}

theorem zeroth {W : World} {g cap : Nat} (h : NodesAt W bR os g cap) : ∃ a cp, W.cell? ⟨g, 9, none⟩ = some (.slice a (kidsO os 0).length cp) := by
  obtain ⟨a, cp, h1, _⟩ := h.kids 0 h.pos
  simp only [Nat.zero_mul, Nat.zero_add] at h1
  exact ⟨a, cp, h1⟩

set_option maxHeartbeats 2000000 in
theorem rd_other (g cap : Nat) (hN : ∀ W, Below w.heap.size w W → NodesAt W bR os g cap) (i : Nat) (hi : i < os.length) (k : Int) (hk : kindO os i = k) (h5 : k ≠ 5) (h1 : k ≠ 1) (h4 : k ≠ 4) :
    Calls Tryz.prog 70 #[.pointer (some ⟨bR, 0, none⟩), .int .i64 i, .int .i64 b] w fun e w' => e = .returned (.bool true) ∧ Below w.heap.size w w' := by
  have hn := hN w (Below.refl _ _)
  have c0 := hn.row
  obtain ⟨a, cp, c9⟩ := zeroth hn
  have ck := hn.kind i hi
  rw [hk] at ck
  have hm := hn.most
  have hp := hn.pos
  generalize (kidsO os 0).length = m at *
  generalize os.length = n at *
  have hnz : (0 : Int) < (n : Int) := by omega
  have hiz : (i : Int) < (n : Int) := by omega
  have z5 : (k == 5) = false := by simpa using h5
  have z1 : (k == 1) = false := by simpa using h1
  have z4 : (k == 4) = false := by simpa using h4
  clear hN hn hk hm
  go_enter Tryz.func70, Tryz.ntmps70
  go_wp2
  go_ret
  exact ⟨rfl, Below.refl _ _⟩

set_option maxHeartbeats 2000000 in
theorem rd_elem (g cap : Nat) (hN : ∀ W, Below w.heap.size w W → NodesAt W bR os g cap) (i : Nat) (hi : i < os.length) (hk : kindO os i = 1) (hE : Calls Tryz.prog 99 #[.pointer (some ⟨bR, 0, none⟩), .int .i64 b] w fun e w' => e = .returned (.bool (elemM os b)) ∧ Below w.heap.size w w') :
    Calls Tryz.prog 70 #[.pointer (some ⟨bR, 0, none⟩), .int .i64 i, .int .i64 b] w fun e w' => e = .returned (.bool (elemM os b)) ∧ Below w.heap.size w w' := by
  have hn := hN w (Below.refl _ _)
  have c0 := hn.row
  obtain ⟨a, cp, c9⟩ := zeroth hn
  have ck := hn.kind i hi
  rw [hk] at ck
  have hm := hn.most
  have hp := hn.pos
  have HE := hide hE
  generalize elemM os b = v at *
  generalize (kidsO os 0).length = m at *
  generalize os.length = n at *
  have hnz : (0 : Int) < (n : Int) := by omega
  have hiz : (i : Int) < (n : Int) := by omega
  clear hN hn hk hm hE
  go_enter Tryz.func70, Tryz.ntmps70
  go_wp2_with (first | (go_at_call 99; refine (unhide HE).mono ?_; rintro e w2 ⟨rfl, hb⟩; have HB := hide hb; clear hb))
  go_ret
  exact ⟨rfl, unhide HB⟩

set_option maxHeartbeats 2000000 in
theorem rd_doct (g cap : Nat) (hN : ∀ W, Below w.heap.size w W → NodesAt W bR os g cap) (i : Nat) (hi : i < os.length) (hk : kindO os i = 4) (hQ : RulesQ w bR os b) :
    Calls Tryz.prog 70 #[.pointer (some ⟨bR, 0, none⟩), .int .i64 i, .int .i64 b] w fun e w' => e = .returned (.bool (doctM os b)) ∧ Below w.heap.size w w' := by
  have hn := hN w (Below.refl _ _)
  have c0 := hn.row
  obtain ⟨a, cp, c9⟩ := zeroth hn
  have ck := hn.kind i hi
  rw [hk] at ck
  have hm := hn.most
  have hp := hn.pos
  have hfew := hQ.few
  unfold doctM
  have HA := hide (hQ.all w 4 (Below.refl _ _))
  have HP := hide hQ.place
  have HB := hide hQ.ahead
  clear hQ
  generalize someO os 4 (kidsO os 0) = v1 at HA ⊢
  generalize (kidsO os 0).length = m at *
  generalize os.length = n at *
  have hnz : (0 : Int) < (n : Int) := by omega
  have hiz : (i : Int) < (n : Int) := by omega
  clear hN hn hk hm
  cases v1
  · go_enter Tryz.func70, Tryz.ntmps70
    go_wp2_with (first
      | (have _x := unhide HB5; go_at_call 75; refine ((unhide HB) _ _ (unhide HB5)).mono ?_; rintro e w6 ⟨rfl, hb⟩; have HB6 := hide hb; clear hb)
      | (go_at_call 100; refine ((unhide HP) _ (unhide HB4)).mono ?_; rintro e w5 ⟨rfl, hb⟩; have HB5 := hide hb; clear hb)
      | (go_at_call 75; refine (unhide HA).mono ?_; rintro e w4 ⟨rfl, hb⟩; have HB4 := hide hb; clear hb))
    go_ret
    exact ⟨by simp, unhide HB6⟩
  · go_enter Tryz.func70, Tryz.ntmps70
    go_wp2_with (first
      | (go_at_call 75; refine (unhide HA).mono ?_; rintro e w4 ⟨rfl, hb⟩; have HB4 := hide hb; clear hb))
    go_ret
    exact ⟨by simp, unhide HB4⟩
end
end Go.Proofs.YtnclnijlpchdnaaGreat

namespace Go.Proofs.YtnclnijlpchdnaaGreat
open Go.RowKit

section
variable {w : World} {bR : Nat} {os : List OneM} {b : Int}

set_option maxHeartbeats 4000000 in
theorem rd_frag (g cap : Nat) (hN : ∀ W, Below w.heap.size w W → NodesAt W bR os g cap) (i : Nat) (hi : i < os.length) (hk : kindO os i = 5) (hfew : (kidsO os i).length ≤ 32768) (hin : ∀ x ∈ kidsO os i, x < os.length)
    (hE : ∀ W, Below w.heap.size w W → Calls Tryz.prog 99 #[.pointer (some ⟨bR, 0, none⟩), .int .i64 b] W fun e w' => e = .returned (.bool (elemM os b)) ∧ Below w.heap.size w w') :
    Calls Tryz.prog 70 #[.pointer (some ⟨bR, 0, none⟩), .int .i64 i, .int .i64 b] w fun e w' => e = .returned (.bool (if someO os 2 (kidsO os i) then false else cntO os (kidsO os i) [1] == 0 || (cntO os (kidsO os i) [1] == 1 && elemM os b))) ∧ Below w.heap.size w w' := by
  have hn := hN w (Below.refl _ _)
  have c0 := hn.row
  obtain ⟨a0, cp0, c9⟩ := zeroth hn
  have ck := hn.kind i hi
  rw [hk] at ck
  have hm := hn.most
  have hp := hn.pos
  have HE := hide hE
  have HIN := hide hin
  have HN := hide hN
  have hilt := hi
  generalize hks : kidsO os i = ks at *
  have HKS := hide hks
  obtain ⟨ans, hans⟩ : ∃ v, (if someO os 2 ks then false else cntO os ks [1] == 0 || (cntO os ks [1] == 1 && elemM os b)) = v := ⟨_, rfl⟩
  rw [hans]
  have HANS := hide hans
  have hlz : ∀ nn : Nat, os.length = nn → (0 : Int) < (nn : Int) ∧ (i : Int) < (nn : Int) := fun nn e => by omega
  obtain ⟨n, hne⟩ : ∃ n, os.length = n := ⟨_, rfl⟩
  obtain ⟨hnz, hiz⟩ := hlz n hne
  rw [hne] at c0
  have HNE := hide hne
  generalize (kidsO os 0).length = m0 at *
  clear hN hn hk hm hE hin hp hi hks hne hlz hans
  go_enter Tryz.func70, Tryz.ntmps70
  go_wp2
  go_loopg [8, 9] ks.length (fun k s t wx => ∃ j : Nat, s = .int .i64 (cntO os (ks.take j) [1]) ∧ t = .int .i64 j ∧ j + k = ks.length ∧ someO os 2 (ks.take j) = false ∧ Below w.heap.size w wx)
  case atStart => exact ⟨0, by simp [cntO], rfl, by omega, rfl, Below.refl _ _⟩
  case round =>
    obtain ⟨j, rfl, rfl, hjk, hno, hb⟩ := hrel
    have hat := (unhide HN) _ hb
    have e0 := hat.row
    rw [unhide HNE] at e0
    obtain ⟨ka, kcp, e9, hints⟩ := hat.kids i (unhide HNE ▸ hilt)
    rw [unhide HKS] at e9 hints
    have HNO := hide hno
    have HB := hide hb
    have hle := cntO_le os (ks.take j) [1]
    have hlt := List.length_take_le j ks
    by_cases hj : j < ks.length
    · have hjz : (j : Int) < (ks.length : Int) := by omega
      have hx : ks[j]? = some ks[j] := List.getElem?_eq_getElem hj
      generalize ks[j] = x at hx
      obtain ⟨ba, off, rfl, hc⟩ := hints.cells j x hx
      have hxl := (unhide HIN) x (List.mem_of_getElem? hx)
      have d0 := hat.kind x hxl
      have hxz : (x : Int) < (n : Int) := by rw [← unhide HNE]; omega
      have HT := hide (cntO_take (os := os) hx [1])
      have HS := hide (some_take (os := os) hx 2)
      have HX := hide hx
      clear hx hat hb hno hints hxl
      generalize cntO os (ks.take j) [1] = mm at hle HT ⊢
      have hm1 : (mm : Int) ≤ 32768 := by omega
      have HKX : Hid (∃ y, y = kindO os (x : Int)) := hide ⟨_, rfl⟩
      generalize hkx : kindO os (x : Int) = kx at *
      have HKE := hide hkx
      clear hkx HKX
      by_cases k2 : kx = 2
      · subst k2
        go_wp2
        go_quiet (fail)
        go_wp2
        go_ret
        refine ⟨?_, below_dn (unhide HB) _⟩
        rw [← unhide HANS, some_mem (unhide HX) (unhide HKE)]
        rfl
      · have z2 : (kx == 2) = false := by simpa using k2
        by_cases k1 : kx = 1
        · subst k1
          go_wp2
          go_quiet (fail)
          go_wp2
          go_roundg (gk - 1)
          case measure => omega
          case rel => exact ⟨j + 1, by rw [unhide HT]; go_num, by go_num, by omega, by rw [unhide HS, unhide HNO]; rfl, below_dn (unhide HB) _⟩
        · have z1 : (kx == 1) = false := by simpa using k1
          have hc1 : ([1] : List Int).contains kx = false := by simpa using k1
          go_wp2
          go_quiet (fail)
          go_wp2
          go_roundg (gk - 1)
          case measure => omega
          case rel => exact ⟨j + 1, by rw [unhide HT, hc1]; simp, by go_num, by omega, by rw [unhide HS, unhide HNO, z2]; rfl, below_dn (unhide HB) _⟩
    · have hjz : ¬ (j : Int) < (ks.length : Int) := by omega
      obtain rfl : j = ks.length := by omega
      rw [List.take_length] at HNO hle
      rw [List.take_length]
      have HA2 : Hid ((cntO os ks [1] == 0 || (cntO os ks [1] == 1 && elemM os b)) = ans) := hide (by rw [← unhide HANS, unhide HNO]; simp)
      have HEW := hide ((unhide HE) _ (unhide HB))
      clear hat hb hno hints
      generalize cntO os ks [1] = mm at hle HA2 ⊢
      generalize elemM os b = ev at HEW HA2
      by_cases m0 : mm = 0
      · subst m0
        go_wp2
        go_ret
        exact ⟨by rw [← unhide HA2]; rfl, unhide HB⟩
      · have y0 : ((mm : Int) == 0) = false := by simpa using m0
        by_cases m1 : mm = 1
        · subst m1
          go_wp2_with (first | (go_at_call 99; refine (unhide HEW).mono ?_; rintro e w2 ⟨rfl, hb⟩; have HB2 := hide hb; clear hb))
          go_ret
          exact ⟨by rw [← unhide HA2]; simp, unhide HB2⟩
        · have y1 : ((mm : Int) == 1) = false := by simp; omega
          go_wp2
          go_ret
          refine ⟨?_, unhide HB⟩
          have q0 : (mm == 0) = false := by simpa using m0
          have q1 : (mm == 1) = false := by simpa using m1
          rw [← unhide HA2, q0, q1]
          rfl

theorem refDocument_any {base : Nat} {G : Nat → Prop} {ns : List NodeM} (hS : RfS w base bR os G) (hs : Sim ns os) (i : Nat) (hi : i < os.length) :
    Calls Tryz.prog 70 #[.pointer (some ⟨bR, 0, none⟩), .int .i64 i, .int .i64 b] w fun e w' => e = .returned (.bool (documentM os i b)) ∧ Below w.heap.size w w' := by
  obtain ⟨g, cap, hN⟩ := nodesAt hS
  have hQ : RulesQ w bR os b := rulesQ hS hs b
  unfold documentM
  by_cases h5 : kindO os i = 5
  · rw [if_pos h5]
    have ho : os[i]? = some os[i] := List.getElem?_eq_getElem hi
    have hfew : (kidsO os i).length ≤ 32768 := by
      have hK := hs.kids i _ ho
      have hm := (hN w (Below.refl _ _)).most
      have := List.Nodup.length_le_of_subset hK.nodup (l₂ := List.range os.length) (fun x hx => List.mem_range.2 (by obtain ⟨oc, hoc, _⟩ := hs.down i _ x ho hx; exact (List.getElem?_eq_some_iff.1 hoc).1))
      simp at this
      rw [kidsO_of ho]
      omega
    exact rd_frag g cap hN i hi h5 hfew (kids_lt hs i) (fun W hW => (refElementRule (rulesQ (hS.below hW) hs b)).mono fun e w' ⟨h1, h2⟩ => ⟨h1, hW.trans (h2.mono hW.size)⟩)
  · rw [if_neg h5]
    by_cases h1 : kindO os i = 1
    · rw [if_pos h1]
      exact rd_elem g cap hN i hi h1 (refElementRule hQ)
    · rw [if_neg h1]
      by_cases h4 : kindO os i = 4
      · rw [if_pos h4]
        exact rd_doct g cap hN i hi h4 hQ
      · rw [if_neg h4]
        exact rd_other g cap hN i hi _ rfl h5 h1 h4
end
end Go.Proofs.YtnclnijlpchdnaaGreat

namespace Go.Proofs.YtnclnijlpchdnaaGreat
open Go.RowKit

/-- What the document's May asks. -/
structure RMayQ (w : World) (bR : Nat) (os : List OneM) (i q : Nat) (b : Int) (g cap n : Nat) : Prop where
  is : ∀ k, Calls Tryz.prog 67 #[.pointer (some ⟨bR, 0, none⟩), .int .i64 k] w fun e w' => e = .returned (.bool (hasO os k)) ∧ w = w'
  par : Calls Tryz.prog 68 #[.pointer (some ⟨bR, 0, none⟩), .int .i64 q] w fun e w' => e = .returned (.bool (parentM (kindO os q))) ∧ w = w'
  above : Calls Tryz.prog 69 #[.pointer (some ⟨bR, 0, none⟩), .int .i64 q, .int .i64 i] w fun e w' => e = .returned (.bool (aboveO os q i)) ∧ w = w'
  doc : Calls Tryz.prog 70 #[.pointer (some ⟨bR, 0, none⟩), .int .i64 i, .int .i64 b] w fun e w' => e = .returned (.bool (documentM os i b)) ∧ Below w.heap.size w w'
  c0 : w.cell? ⟨bR, 0, none⟩ = some (.slice (some ⟨g, 0, none⟩) n cap)
  ck : w.cell? ⟨g, i * 10, none⟩ = some (.int .i64 (kindO os i))
  cu : ∀ j : Nat, b = (j : Int) → j < n → w.cell? ⟨g, j * 10 + 8, none⟩ = some (.int .i64 (upIO os b))
  hi : (i : Int) < (n : Int)
  hn : ∀ j : Nat, b = (j : Int) → hasO os b = true → j < n
theorem rmayQ {w : World} {base bR : Nat} {os : List OneM} {G : Nat → Prop} {ns : List NodeM} (hS : RfS w base bR os G) (hs : Sim ns os) (i q : Nat) (hi : i < os.length) (hq : q < os.length) (b : Int) : ∃ g cap n, RMayQ w bR os i q b g cap n := by
  obtain ⟨g, cap, hN⟩ := nodesAt hS
  have hn := hN w (Below.refl _ _)
  refine ⟨g, cap, os.length, ?_, ?_, ?_, refDocument_any hS hs i hi, hn.row, hn.kind i hi, fun j hj hl => by rw [hj]; exact hn.up j hl, by omega, fun j hj hh => ?_⟩
  · obtain ⟨g', cap', rs, h, rfl, _⟩ := hS
    exact fun k => refIs_any h k
  · obtain ⟨g', cap', rs, h, rfl, _⟩ := hS
    have hl := osOf_len rs
    have hr : rs[q]? = some rs[q] := List.getElem?_eq_getElem (by omega)
    rw [kindO_of (osOf_get hr)]
    exact refParent_any h q _ hr
  · obtain ⟨g', cap', rs, h, rfl, _⟩ := hS
    exact refAbove_any h hs.ends q i
  · have := of_decide_eq_true hh
    omega

section
variable {w : World} {bR : Nat} {os : List OneM} {i q : Nat} {b : Int} {g cap n : Nat}

set_option maxHeartbeats 2000000 in
theorem rm_b (hQ : RMayQ w bR os i q b g cap n) (hhi : hasO os i = true) (hhp : hasO os q = true) (h0 : b ≠ -1) (hb : hasO os b = false) :
    Calls Tryz.prog 25 #[.pointer (some ⟨bR, 0, none⟩), .int .i64 i, .int .i64 q, .int .i64 b] w fun e w' => e = .returned (.int .i64 6) ∧ Below w.heap.size w w' := by
  have HHI := hide hhi
  have HHP := hide hhp
  have HI := hide (hQ.is i)
  have HP := hide (hQ.is q)
  rw [unhide HHI] at HI
  rw [unhide HHP] at HP
  have HB := hide (hQ.is b)
  rw [hb] at HB
  have z0 : (b != -1) = true := by simpa using h0
  have z0' : (b == -1) = false := by simpa using h0
  clear hQ hhi hhp hb
  go_enter Tryz.func25, Tryz.ntmps25
  go_wp2_with (first
    | (have _x := unhide HD2; go_at_call 67; refine (unhide HB).mono ?_; rintro e w1 ⟨rfl, rfl⟩)
    | (have _x := unhide HD1; go_at_call 67; refine (unhide HP).mono ?_; rintro e w1 ⟨rfl, rfl⟩; have HD2 := hide True.intro)
    | (go_at_call 67; refine (unhide HI).mono ?_; rintro e w1 ⟨rfl, rfl⟩; have HD1 := hide True.intro))
  go_ret
  exact ⟨rfl, Below.refl _ _⟩

set_option maxHeartbeats 2000000 in
theorem rm_p0 (hQ : RMayQ w bR os i q b g cap n) (hhi : hasO os i = true) (hhp : hasO os q = true) (h0 : b = -1) (hp : parentM (kindO os q) = false) :
    Calls Tryz.prog 25 #[.pointer (some ⟨bR, 0, none⟩), .int .i64 i, .int .i64 q, .int .i64 b] w fun e w' => e = .returned (.int .i64 20) ∧ Below w.heap.size w w' := by
  have HHI := hide hhi
  have HHP := hide hhp
  have HI := hide (hQ.is i)
  have HP := hide (hQ.is q)
  rw [unhide HHI] at HI
  rw [unhide HHP] at HP
  have HPA := hide hQ.par
  rw [hp] at HPA
  subst h0
  clear hQ hhi hhp hp
  go_enter Tryz.func25, Tryz.ntmps25
  go_wp2_with (first
    | (have _x := unhide HD1; go_at_call 67; refine (unhide HP).mono ?_; rintro e w1 ⟨rfl, rfl⟩; have HD2 := hide True.intro)
    | (go_at_call 67; refine (unhide HI).mono ?_; rintro e w1 ⟨rfl, rfl⟩; have HD1 := hide True.intro)
    | (go_at_call 68; refine (unhide HPA).mono ?_; rintro e w1 ⟨rfl, rfl⟩))
  go_ret
  exact ⟨rfl, Below.refl _ _⟩

set_option maxHeartbeats 2000000 in
theorem rm_a0 (hQ : RMayQ w bR os i q b g cap n) (hhi : hasO os i = true) (hhp : hasO os q = true) (h0 : b = -1) (hp : parentM (kindO os q) = true) (ha : aboveO os q i = true) :
    Calls Tryz.prog 25 #[.pointer (some ⟨bR, 0, none⟩), .int .i64 i, .int .i64 q, .int .i64 b] w fun e w' => e = .returned (.int .i64 20) ∧ Below w.heap.size w w' := by
  have HHI := hide hhi
  have HHP := hide hhp
  have HI := hide (hQ.is i)
  have HP := hide (hQ.is q)
  rw [unhide HHI] at HI
  rw [unhide HHP] at HP
  have HPA := hide hQ.par
  rw [hp] at HPA
  have HAB := hide hQ.above
  rw [ha] at HAB
  subst h0
  clear hQ hhi hhp hp ha
  go_enter Tryz.func25, Tryz.ntmps25
  go_wp2_with (first
    | (have _x := unhide HD1; go_at_call 67; refine (unhide HP).mono ?_; rintro e w1 ⟨rfl, rfl⟩; have HD2 := hide True.intro)
    | (go_at_call 67; refine (unhide HI).mono ?_; rintro e w1 ⟨rfl, rfl⟩; have HD1 := hide True.intro)
    | (go_at_call 68; refine (unhide HPA).mono ?_; rintro e w1 ⟨rfl, rfl⟩)
    | (go_at_call 69; refine (unhide HAB).mono ?_; rintro e w1 ⟨rfl, rfl⟩))
  go_ret
  exact ⟨rfl, Below.refl _ _⟩

set_option maxHeartbeats 2000000 in
theorem rm_k00 (hQ : RMayQ w bR os i q b g cap n) (hhi : hasO os i = true) (hhp : hasO os q = true) (h0 : b = -1) (hp : parentM (kindO os q) = true) (ha : aboveO os q i = false) (hk : kindO os i = 0) :
    Calls Tryz.prog 25 #[.pointer (some ⟨bR, 0, none⟩), .int .i64 i, .int .i64 q, .int .i64 b] w fun e w' => e = .returned (.int .i64 20) ∧ Below w.heap.size w w' := by
  have HHI := hide hhi
  have HHP := hide hhp
  have HI := hide (hQ.is i)
  have HP := hide (hQ.is q)
  rw [unhide HHI] at HI
  rw [unhide HHP] at HP
  have HPA := hide hQ.par
  rw [hp] at HPA
  have HAB := hide hQ.above
  rw [ha] at HAB
  have c0 := hQ.c0
  have ck := hQ.ck
  have hiz := hQ.hi
  rw [hk] at ck
  subst h0
  clear hQ hhi hhp hp ha hk
  go_enter Tryz.func25, Tryz.ntmps25
  go_wp2_with (first
    | (have _x := unhide HD1; go_at_call 67; refine (unhide HP).mono ?_; rintro e w1 ⟨rfl, rfl⟩; have HD2 := hide True.intro)
    | (go_at_call 67; refine (unhide HI).mono ?_; rintro e w1 ⟨rfl, rfl⟩; have HD1 := hide True.intro)
    | (go_at_call 68; refine (unhide HPA).mono ?_; rintro e w1 ⟨rfl, rfl⟩)
    | (go_at_call 69; refine (unhide HAB).mono ?_; rintro e w1 ⟨rfl, rfl⟩))
  go_ret
  exact ⟨rfl, Below.refl _ _⟩

set_option maxHeartbeats 2000000 in
theorem rm_k20 (hQ : RMayQ w bR os i q b g cap n) (hhi : hasO os i = true) (hhp : hasO os q = true) (h0 : b = -1) (hp : parentM (kindO os q) = true) (ha : aboveO os q i = false) (hk : kindO os i = 2) (hq0 : q = 0) :
    Calls Tryz.prog 25 #[.pointer (some ⟨bR, 0, none⟩), .int .i64 i, .int .i64 q, .int .i64 b] w fun e w' => e = .returned (.int .i64 20) ∧ Below w.heap.size w w' := by
  have HHI := hide hhi
  have HHP := hide hhp
  have HI := hide (hQ.is i)
  have HP := hide (hQ.is q)
  rw [unhide HHI] at HI
  rw [unhide HHP] at HP
  have HPA := hide hQ.par
  rw [hp] at HPA
  have HAB := hide hQ.above
  rw [ha] at HAB
  have c0 := hQ.c0
  have ck := hQ.ck
  have hiz := hQ.hi
  rw [hk] at ck
  subst h0
  subst hq0
  clear hQ hhi hhp hp ha hk
  go_enter Tryz.func25, Tryz.ntmps25
  go_wp2_with (first
    | (have _x := unhide HD1; go_at_call 67; refine (unhide HP).mono ?_; rintro e w1 ⟨rfl, rfl⟩; have HD2 := hide True.intro)
    | (go_at_call 67; refine (unhide HI).mono ?_; rintro e w1 ⟨rfl, rfl⟩; have HD1 := hide True.intro)
    | (go_at_call 68; refine (unhide HPA).mono ?_; rintro e w1 ⟨rfl, rfl⟩)
    | (go_at_call 69; refine (unhide HAB).mono ?_; rintro e w1 ⟨rfl, rfl⟩))
  go_ret
  exact ⟨rfl, Below.refl _ _⟩

set_option maxHeartbeats 2000000 in
theorem rm_k40 (hQ : RMayQ w bR os i q b g cap n) (hhi : hasO os i = true) (hhp : hasO os q = true) (h0 : b = -1) (hp : parentM (kindO os q) = true) (ha : aboveO os q i = false) (hk : kindO os i = 4) (hq0 : q ≠ 0) :
    Calls Tryz.prog 25 #[.pointer (some ⟨bR, 0, none⟩), .int .i64 i, .int .i64 q, .int .i64 b] w fun e w' => e = .returned (.int .i64 20) ∧ Below w.heap.size w w' := by
  have HHI := hide hhi
  have HHP := hide hhp
  have HI := hide (hQ.is i)
  have HP := hide (hQ.is q)
  rw [unhide HHI] at HI
  rw [unhide HHP] at HP
  have HPA := hide hQ.par
  rw [hp] at HPA
  have HAB := hide hQ.above
  rw [ha] at HAB
  have c0 := hQ.c0
  have ck := hQ.ck
  have hiz := hQ.hi
  rw [hk] at ck
  subst h0
  have x0 : ((q : Int) == 0) = false := by simpa using hq0
  have x0' : ¬ (q : Int) = 0 := by omega
  have x0'' : ((q : Int) != 0) = true := by simp; omega
  clear hQ hhi hhp hp ha hk
  go_enter Tryz.func25, Tryz.ntmps25
  go_wp2_with (first
    | (have _x := unhide HD1; go_at_call 67; refine (unhide HP).mono ?_; rintro e w1 ⟨rfl, rfl⟩; have HD2 := hide True.intro)
    | (go_at_call 67; refine (unhide HI).mono ?_; rintro e w1 ⟨rfl, rfl⟩; have HD1 := hide True.intro)
    | (go_at_call 68; refine (unhide HPA).mono ?_; rintro e w1 ⟨rfl, rfl⟩)
    | (go_at_call 69; refine (unhide HAB).mono ?_; rintro e w1 ⟨rfl, rfl⟩))
  go_ret
  exact ⟨rfl, Below.refl _ _⟩

set_option maxHeartbeats 2000000 in
theorem rm_d4f0 (hQ : RMayQ w bR os i q b g cap n) (hhi : hasO os i = true) (hhp : hasO os q = true) (h0 : b = -1) (hp : parentM (kindO os q) = true) (ha : aboveO os q i = false) (hk : kindO os i = 4) (hq0 : q = 0) (hd : documentM os i b = false) :
    Calls Tryz.prog 25 #[.pointer (some ⟨bR, 0, none⟩), .int .i64 i, .int .i64 q, .int .i64 b] w fun e w' => e = .returned (.int .i64 20) ∧ Below w.heap.size w w' := by
  have HHI := hide hhi
  have HHP := hide hhp
  have HI := hide (hQ.is i)
  have HP := hide (hQ.is q)
  rw [unhide HHI] at HI
  rw [unhide HHP] at HP
  have HPA := hide hQ.par
  rw [hp] at HPA
  have HAB := hide hQ.above
  rw [ha] at HAB
  have HDO := hide hQ.doc
  rw [hd] at HDO
  have c0 := hQ.c0
  have ck := hQ.ck
  have hiz := hQ.hi
  rw [hk] at ck
  subst h0
  subst hq0
  clear hQ hhi hhp hp ha hk hd
  go_enter Tryz.func25, Tryz.ntmps25
  go_wp2_with (first
    | (have _x := unhide HD1; go_at_call 67; refine (unhide HP).mono ?_; rintro e w1 ⟨rfl, rfl⟩; have HD2 := hide True.intro)
    | (go_at_call 67; refine (unhide HI).mono ?_; rintro e w1 ⟨rfl, rfl⟩; have HD1 := hide True.intro)
    | (go_at_call 68; refine (unhide HPA).mono ?_; rintro e w1 ⟨rfl, rfl⟩)
    | (go_at_call 69; refine (unhide HAB).mono ?_; rintro e w1 ⟨rfl, rfl⟩)
    | (go_at_call 70; refine (unhide HDO).mono ?_; rintro e w1 ⟨rfl, hb9⟩; have HB9 := hide hb9; clear hb9))
  go_ret
  exact ⟨rfl, unhide HB9⟩

set_option maxHeartbeats 2000000 in
theorem rm_dxf0 (hQ : RMayQ w bR os i q b g cap n) (hhi : hasO os i = true) (hhp : hasO os q = true) (h0 : b = -1) (hp : parentM (kindO os q) = true) (ha : aboveO os q i = false) (k : Int) (hk : kindO os i = k) (k0 : k ≠ 0) (k2 : k ≠ 2) (k4 : k ≠ 4) (hq0 : q = 0) (hd : documentM os i b = false) :
    Calls Tryz.prog 25 #[.pointer (some ⟨bR, 0, none⟩), .int .i64 i, .int .i64 q, .int .i64 b] w fun e w' => e = .returned (.int .i64 20) ∧ Below w.heap.size w w' := by
  have HHI := hide hhi
  have HHP := hide hhp
  have HI := hide (hQ.is i)
  have HP := hide (hQ.is q)
  rw [unhide HHI] at HI
  rw [unhide HHP] at HP
  have HPA := hide hQ.par
  rw [hp] at HPA
  have HAB := hide hQ.above
  rw [ha] at HAB
  have HDO := hide hQ.doc
  rw [hd] at HDO
  have c0 := hQ.c0
  have ck := hQ.ck
  have hiz := hQ.hi
  rw [hk] at ck
  subst h0
  subst hq0
  have w0 : (k == 0) = false := by simpa using k0
  have w2 : (k == 2) = false := by simpa using k2
  have w4 : (k == 4) = false := by simpa using k4
  clear hQ hhi hhp hp ha hk hd
  go_enter Tryz.func25, Tryz.ntmps25
  go_wp2_with (first
    | (have _x := unhide HD1; go_at_call 67; refine (unhide HP).mono ?_; rintro e w1 ⟨rfl, rfl⟩; have HD2 := hide True.intro)
    | (go_at_call 67; refine (unhide HI).mono ?_; rintro e w1 ⟨rfl, rfl⟩; have HD1 := hide True.intro)
    | (go_at_call 68; refine (unhide HPA).mono ?_; rintro e w1 ⟨rfl, rfl⟩)
    | (go_at_call 69; refine (unhide HAB).mono ?_; rintro e w1 ⟨rfl, rfl⟩)
    | (go_at_call 70; refine (unhide HDO).mono ?_; rintro e w1 ⟨rfl, hb9⟩; have HB9 := hide hb9; clear hb9))
  go_ret
  exact ⟨rfl, unhide HB9⟩

set_option maxHeartbeats 2000000 in
theorem rm_d4t0 (hQ : RMayQ w bR os i q b g cap n) (hhi : hasO os i = true) (hhp : hasO os q = true) (h0 : b = -1) (hp : parentM (kindO os q) = true) (ha : aboveO os q i = false) (hk : kindO os i = 4) (hq0 : q = 0) (hd : documentM os i b = true) :
    Calls Tryz.prog 25 #[.pointer (some ⟨bR, 0, none⟩), .int .i64 i, .int .i64 q, .int .i64 b] w fun e w' => e = .returned (.int .i64 0) ∧ Below w.heap.size w w' := by
  have HHI := hide hhi
  have HHP := hide hhp
  have HI := hide (hQ.is i)
  have HP := hide (hQ.is q)
  rw [unhide HHI] at HI
  rw [unhide HHP] at HP
  have HPA := hide hQ.par
  rw [hp] at HPA
  have HAB := hide hQ.above
  rw [ha] at HAB
  have HDO := hide hQ.doc
  rw [hd] at HDO
  have c0 := hQ.c0
  have ck := hQ.ck
  have hiz := hQ.hi
  rw [hk] at ck
  subst h0
  subst hq0
  clear hQ hhi hhp hp ha hk hd
  go_enter Tryz.func25, Tryz.ntmps25
  go_wp2_with (first
    | (have _x := unhide HD1; go_at_call 67; refine (unhide HP).mono ?_; rintro e w1 ⟨rfl, rfl⟩; have HD2 := hide True.intro)
    | (go_at_call 67; refine (unhide HI).mono ?_; rintro e w1 ⟨rfl, rfl⟩; have HD1 := hide True.intro)
    | (go_at_call 68; refine (unhide HPA).mono ?_; rintro e w1 ⟨rfl, rfl⟩)
    | (go_at_call 69; refine (unhide HAB).mono ?_; rintro e w1 ⟨rfl, rfl⟩)
    | (go_at_call 70; refine (unhide HDO).mono ?_; rintro e w1 ⟨rfl, hb9⟩; have HB9 := hide hb9; clear hb9))
  go_ret
  exact ⟨rfl, unhide HB9⟩

set_option maxHeartbeats 2000000 in
theorem rm_dxt0 (hQ : RMayQ w bR os i q b g cap n) (hhi : hasO os i = true) (hhp : hasO os q = true) (h0 : b = -1) (hp : parentM (kindO os q) = true) (ha : aboveO os q i = false) (k : Int) (hk : kindO os i = k) (k0 : k ≠ 0) (k2 : k ≠ 2) (k4 : k ≠ 4) (hq0 : q = 0) (hd : documentM os i b = true) :
    Calls Tryz.prog 25 #[.pointer (some ⟨bR, 0, none⟩), .int .i64 i, .int .i64 q, .int .i64 b] w fun e w' => e = .returned (.int .i64 0) ∧ Below w.heap.size w w' := by
  have HHI := hide hhi
  have HHP := hide hhp
  have HI := hide (hQ.is i)
  have HP := hide (hQ.is q)
  rw [unhide HHI] at HI
  rw [unhide HHP] at HP
  have HPA := hide hQ.par
  rw [hp] at HPA
  have HAB := hide hQ.above
  rw [ha] at HAB
  have HDO := hide hQ.doc
  rw [hd] at HDO
  have c0 := hQ.c0
  have ck := hQ.ck
  have hiz := hQ.hi
  rw [hk] at ck
  subst h0
  subst hq0
  have w0 : (k == 0) = false := by simpa using k0
  have w2 : (k == 2) = false := by simpa using k2
  have w4 : (k == 4) = false := by simpa using k4
  clear hQ hhi hhp hp ha hk hd
  go_enter Tryz.func25, Tryz.ntmps25
  go_wp2_with (first
    | (have _x := unhide HD1; go_at_call 67; refine (unhide HP).mono ?_; rintro e w1 ⟨rfl, rfl⟩; have HD2 := hide True.intro)
    | (go_at_call 67; refine (unhide HI).mono ?_; rintro e w1 ⟨rfl, rfl⟩; have HD1 := hide True.intro)
    | (go_at_call 68; refine (unhide HPA).mono ?_; rintro e w1 ⟨rfl, rfl⟩)
    | (go_at_call 69; refine (unhide HAB).mono ?_; rintro e w1 ⟨rfl, rfl⟩)
    | (go_at_call 70; refine (unhide HDO).mono ?_; rintro e w1 ⟨rfl, hb9⟩; have HB9 := hide hb9; clear hb9))
  go_ret
  exact ⟨rfl, unhide HB9⟩

set_option maxHeartbeats 2000000 in
theorem rm_n20 (hQ : RMayQ w bR os i q b g cap n) (hhi : hasO os i = true) (hhp : hasO os q = true) (h0 : b = -1) (hp : parentM (kindO os q) = true) (ha : aboveO os q i = false) (hk : kindO os i = 2) (hq0 : q ≠ 0) :
    Calls Tryz.prog 25 #[.pointer (some ⟨bR, 0, none⟩), .int .i64 i, .int .i64 q, .int .i64 b] w fun e w' => e = .returned (.int .i64 0) ∧ Below w.heap.size w w' := by
  have HHI := hide hhi
  have HHP := hide hhp
  have HI := hide (hQ.is i)
  have HP := hide (hQ.is q)
  rw [unhide HHI] at HI
  rw [unhide HHP] at HP
  have HPA := hide hQ.par
  rw [hp] at HPA
  have HAB := hide hQ.above
  rw [ha] at HAB
  have c0 := hQ.c0
  have ck := hQ.ck
  have hiz := hQ.hi
  rw [hk] at ck
  subst h0
  have x0 : ((q : Int) == 0) = false := by simpa using hq0
  have x0' : ¬ (q : Int) = 0 := by omega
  have x0'' : ((q : Int) != 0) = true := by simp; omega
  clear hQ hhi hhp hp ha hk
  go_enter Tryz.func25, Tryz.ntmps25
  go_wp2_with (first
    | (have _x := unhide HD1; go_at_call 67; refine (unhide HP).mono ?_; rintro e w1 ⟨rfl, rfl⟩; have HD2 := hide True.intro)
    | (go_at_call 67; refine (unhide HI).mono ?_; rintro e w1 ⟨rfl, rfl⟩; have HD1 := hide True.intro)
    | (go_at_call 68; refine (unhide HPA).mono ?_; rintro e w1 ⟨rfl, rfl⟩)
    | (go_at_call 69; refine (unhide HAB).mono ?_; rintro e w1 ⟨rfl, rfl⟩))
  go_ret
  exact ⟨rfl, Below.refl _ _⟩

set_option maxHeartbeats 2000000 in
theorem rm_nx0 (hQ : RMayQ w bR os i q b g cap n) (hhi : hasO os i = true) (hhp : hasO os q = true) (h0 : b = -1) (hp : parentM (kindO os q) = true) (ha : aboveO os q i = false) (k : Int) (hk : kindO os i = k) (k0 : k ≠ 0) (k2 : k ≠ 2) (k4 : k ≠ 4) (hq0 : q ≠ 0) :
    Calls Tryz.prog 25 #[.pointer (some ⟨bR, 0, none⟩), .int .i64 i, .int .i64 q, .int .i64 b] w fun e w' => e = .returned (.int .i64 0) ∧ Below w.heap.size w w' := by
  have HHI := hide hhi
  have HHP := hide hhp
  have HI := hide (hQ.is i)
  have HP := hide (hQ.is q)
  rw [unhide HHI] at HI
  rw [unhide HHP] at HP
  have HPA := hide hQ.par
  rw [hp] at HPA
  have HAB := hide hQ.above
  rw [ha] at HAB
  have c0 := hQ.c0
  have ck := hQ.ck
  have hiz := hQ.hi
  rw [hk] at ck
  subst h0
  have x0 : ((q : Int) == 0) = false := by simpa using hq0
  have x0' : ¬ (q : Int) = 0 := by omega
  have x0'' : ((q : Int) != 0) = true := by simp; omega
  have w0 : (k == 0) = false := by simpa using k0
  have w2 : (k == 2) = false := by simpa using k2
  have w4 : (k == 4) = false := by simpa using k4
  clear hQ hhi hhp hp ha hk
  go_enter Tryz.func25, Tryz.ntmps25
  go_wp2_with (first
    | (have _x := unhide HD1; go_at_call 67; refine (unhide HP).mono ?_; rintro e w1 ⟨rfl, rfl⟩; have HD2 := hide True.intro)
    | (go_at_call 67; refine (unhide HI).mono ?_; rintro e w1 ⟨rfl, rfl⟩; have HD1 := hide True.intro)
    | (go_at_call 68; refine (unhide HPA).mono ?_; rintro e w1 ⟨rfl, rfl⟩)
    | (go_at_call 69; refine (unhide HAB).mono ?_; rintro e w1 ⟨rfl, rfl⟩))
  go_ret
  exact ⟨rfl, Below.refl _ _⟩

set_option maxHeartbeats 2000000 in
theorem rm_p1 (hQ : RMayQ w bR os i q b g cap n) (hhi : hasO os i = true) (hhp : hasO os q = true) (h0 : b ≠ -1) (hb : hasO os b = true) (hp : parentM (kindO os q) = false) :
    Calls Tryz.prog 25 #[.pointer (some ⟨bR, 0, none⟩), .int .i64 i, .int .i64 q, .int .i64 b] w fun e w' => e = .returned (.int .i64 20) ∧ Below w.heap.size w w' := by
  have HHI := hide hhi
  have HHP := hide hhp
  have HI := hide (hQ.is i)
  have HP := hide (hQ.is q)
  rw [unhide HHI] at HI
  rw [unhide HHP] at HP
  have HB := hide (hQ.is b)
  rw [hb] at HB
  have HPA := hide hQ.par
  rw [hp] at HPA
  have z0 : (b != -1) = true := by simpa using h0
  have z0' : (b == -1) = false := by simpa using h0
  clear hQ hhi hhp hp hb
  go_enter Tryz.func25, Tryz.ntmps25
  go_wp2_with (first
    | (have _x := unhide HD2; go_at_call 67; refine (unhide HB).mono ?_; rintro e w1 ⟨rfl, rfl⟩)
    | (have _x := unhide HD1; go_at_call 67; refine (unhide HP).mono ?_; rintro e w1 ⟨rfl, rfl⟩; have HD2 := hide True.intro)
    | (go_at_call 67; refine (unhide HI).mono ?_; rintro e w1 ⟨rfl, rfl⟩; have HD1 := hide True.intro)
    | (go_at_call 68; refine (unhide HPA).mono ?_; rintro e w1 ⟨rfl, rfl⟩))
  go_ret
  exact ⟨rfl, Below.refl _ _⟩

set_option maxHeartbeats 2000000 in
theorem rm_a1 (hQ : RMayQ w bR os i q b g cap n) (hhi : hasO os i = true) (hhp : hasO os q = true) (h0 : b ≠ -1) (hb : hasO os b = true) (hp : parentM (kindO os q) = true) (ha : aboveO os q i = true) :
    Calls Tryz.prog 25 #[.pointer (some ⟨bR, 0, none⟩), .int .i64 i, .int .i64 q, .int .i64 b] w fun e w' => e = .returned (.int .i64 20) ∧ Below w.heap.size w w' := by
  have HHI := hide hhi
  have HHP := hide hhp
  have HI := hide (hQ.is i)
  have HP := hide (hQ.is q)
  rw [unhide HHI] at HI
  rw [unhide HHP] at HP
  have HB := hide (hQ.is b)
  rw [hb] at HB
  have HPA := hide hQ.par
  rw [hp] at HPA
  have HAB := hide hQ.above
  rw [ha] at HAB
  have z0 : (b != -1) = true := by simpa using h0
  have z0' : (b == -1) = false := by simpa using h0
  clear hQ hhi hhp hp ha hb
  go_enter Tryz.func25, Tryz.ntmps25
  go_wp2_with (first
    | (have _x := unhide HD2; go_at_call 67; refine (unhide HB).mono ?_; rintro e w1 ⟨rfl, rfl⟩)
    | (have _x := unhide HD1; go_at_call 67; refine (unhide HP).mono ?_; rintro e w1 ⟨rfl, rfl⟩; have HD2 := hide True.intro)
    | (go_at_call 67; refine (unhide HI).mono ?_; rintro e w1 ⟨rfl, rfl⟩; have HD1 := hide True.intro)
    | (go_at_call 68; refine (unhide HPA).mono ?_; rintro e w1 ⟨rfl, rfl⟩)
    | (go_at_call 69; refine (unhide HAB).mono ?_; rintro e w1 ⟨rfl, rfl⟩))
  go_ret
  exact ⟨rfl, Below.refl _ _⟩

set_option maxHeartbeats 2000000 in
theorem rm_u (hQ : RMayQ w bR os i q b g cap n) (hhi : hasO os i = true) (hhp : hasO os q = true) (h0 : b ≠ -1) (hb : hasO os b = true) (hp : parentM (kindO os q) = true) (ha : aboveO os q i = false) (v : Int) (hu : upIO os b = v) (hv : v ≠ (q : Int)) :
    Calls Tryz.prog 25 #[.pointer (some ⟨bR, 0, none⟩), .int .i64 i, .int .i64 q, .int .i64 b] w fun e w' => e = .returned (.int .i64 21) ∧ Below w.heap.size w w' := by
  have HHI := hide hhi
  have HHP := hide hhp
  have HI := hide (hQ.is i)
  have HP := hide (hQ.is q)
  rw [unhide HHI] at HI
  rw [unhide HHP] at HP
  have HB := hide (hQ.is b)
  rw [hb] at HB
  have HPA := hide hQ.par
  rw [hp] at HPA
  have HAB := hide hQ.above
  rw [ha] at HAB
  have c0 := hQ.c0
  obtain ⟨j, o, hbj, ho⟩ := hasO_yes hb
  have hjn := hQ.hn j hbj hb
  have cu := hQ.cu j hbj hjn
  have hjz : (j : Int) < (n : Int) := by omega
  clear ho hjn
  rw [hu] at cu
  subst hbj
  have y1 : (v != (q : Int)) = true := by simpa using hv
  have y1' : (v == (q : Int)) = false := by simpa using hv
  have z0 : ((j : Int) != -1) = true := by simp
  have z0' : ((j : Int) == -1) = false := by simp
  clear hQ hhi hhp hp ha hb hu
  go_enter Tryz.func25, Tryz.ntmps25
  go_wp2_with (first
    | (have _x := unhide HD2; go_at_call 67; refine (unhide HB).mono ?_; rintro e w1 ⟨rfl, rfl⟩)
    | (have _x := unhide HD1; go_at_call 67; refine (unhide HP).mono ?_; rintro e w1 ⟨rfl, rfl⟩; have HD2 := hide True.intro)
    | (go_at_call 67; refine (unhide HI).mono ?_; rintro e w1 ⟨rfl, rfl⟩; have HD1 := hide True.intro)
    | (go_at_call 68; refine (unhide HPA).mono ?_; rintro e w1 ⟨rfl, rfl⟩)
    | (go_at_call 69; refine (unhide HAB).mono ?_; rintro e w1 ⟨rfl, rfl⟩))
  go_ret
  exact ⟨rfl, Below.refl _ _⟩

set_option maxHeartbeats 2000000 in
theorem rm_k01 (hQ : RMayQ w bR os i q b g cap n) (hhi : hasO os i = true) (hhp : hasO os q = true) (h0 : b ≠ -1) (hb : hasO os b = true) (hp : parentM (kindO os q) = true) (ha : aboveO os q i = false) (hu : upIO os b = (q : Int)) (hk : kindO os i = 0) :
    Calls Tryz.prog 25 #[.pointer (some ⟨bR, 0, none⟩), .int .i64 i, .int .i64 q, .int .i64 b] w fun e w' => e = .returned (.int .i64 20) ∧ Below w.heap.size w w' := by
  have HHI := hide hhi
  have HHP := hide hhp
  have HI := hide (hQ.is i)
  have HP := hide (hQ.is q)
  rw [unhide HHI] at HI
  rw [unhide HHP] at HP
  have HB := hide (hQ.is b)
  rw [hb] at HB
  have HPA := hide hQ.par
  rw [hp] at HPA
  have HAB := hide hQ.above
  rw [ha] at HAB
  have c0 := hQ.c0
  obtain ⟨j, o, hbj, ho⟩ := hasO_yes hb
  have hjn := hQ.hn j hbj hb
  have cu := hQ.cu j hbj hjn
  have hjz : (j : Int) < (n : Int) := by omega
  clear ho hjn
  have ck := hQ.ck
  have hiz := hQ.hi
  rw [hk] at ck
  rw [hu] at cu
  subst hbj
  have y1 : ((q : Int) != (q : Int)) = false := by simp
  have y1' : ((q : Int) == (q : Int)) = true := by simp
  have z0 : ((j : Int) != -1) = true := by simp
  have z0' : ((j : Int) == -1) = false := by simp
  clear hQ hhi hhp hp ha hk hb hu
  go_enter Tryz.func25, Tryz.ntmps25
  go_wp2_with (first
    | (have _x := unhide HD2; go_at_call 67; refine (unhide HB).mono ?_; rintro e w1 ⟨rfl, rfl⟩)
    | (have _x := unhide HD1; go_at_call 67; refine (unhide HP).mono ?_; rintro e w1 ⟨rfl, rfl⟩; have HD2 := hide True.intro)
    | (go_at_call 67; refine (unhide HI).mono ?_; rintro e w1 ⟨rfl, rfl⟩; have HD1 := hide True.intro)
    | (go_at_call 68; refine (unhide HPA).mono ?_; rintro e w1 ⟨rfl, rfl⟩)
    | (go_at_call 69; refine (unhide HAB).mono ?_; rintro e w1 ⟨rfl, rfl⟩))
  go_ret
  exact ⟨rfl, Below.refl _ _⟩

set_option maxHeartbeats 2000000 in
theorem rm_k21 (hQ : RMayQ w bR os i q b g cap n) (hhi : hasO os i = true) (hhp : hasO os q = true) (h0 : b ≠ -1) (hb : hasO os b = true) (hp : parentM (kindO os q) = true) (ha : aboveO os q i = false) (hu : upIO os b = (q : Int)) (hk : kindO os i = 2) (hq0 : q = 0) :
    Calls Tryz.prog 25 #[.pointer (some ⟨bR, 0, none⟩), .int .i64 i, .int .i64 q, .int .i64 b] w fun e w' => e = .returned (.int .i64 20) ∧ Below w.heap.size w w' := by
  have HHI := hide hhi
  have HHP := hide hhp
  have HI := hide (hQ.is i)
  have HP := hide (hQ.is q)
  rw [unhide HHI] at HI
  rw [unhide HHP] at HP
  have HB := hide (hQ.is b)
  rw [hb] at HB
  have HPA := hide hQ.par
  rw [hp] at HPA
  have HAB := hide hQ.above
  rw [ha] at HAB
  have c0 := hQ.c0
  obtain ⟨j, o, hbj, ho⟩ := hasO_yes hb
  have hjn := hQ.hn j hbj hb
  have cu := hQ.cu j hbj hjn
  have hjz : (j : Int) < (n : Int) := by omega
  clear ho hjn
  have ck := hQ.ck
  have hiz := hQ.hi
  rw [hk] at ck
  rw [hu] at cu
  subst hbj
  have y1 : ((q : Int) != (q : Int)) = false := by simp
  have y1' : ((q : Int) == (q : Int)) = true := by simp
  have z0 : ((j : Int) != -1) = true := by simp
  have z0' : ((j : Int) == -1) = false := by simp
  subst hq0
  clear hQ hhi hhp hp ha hk hb hu
  go_enter Tryz.func25, Tryz.ntmps25
  go_wp2_with (first
    | (have _x := unhide HD2; go_at_call 67; refine (unhide HB).mono ?_; rintro e w1 ⟨rfl, rfl⟩)
    | (have _x := unhide HD1; go_at_call 67; refine (unhide HP).mono ?_; rintro e w1 ⟨rfl, rfl⟩; have HD2 := hide True.intro)
    | (go_at_call 67; refine (unhide HI).mono ?_; rintro e w1 ⟨rfl, rfl⟩; have HD1 := hide True.intro)
    | (go_at_call 68; refine (unhide HPA).mono ?_; rintro e w1 ⟨rfl, rfl⟩)
    | (go_at_call 69; refine (unhide HAB).mono ?_; rintro e w1 ⟨rfl, rfl⟩))
  go_ret
  exact ⟨rfl, Below.refl _ _⟩

set_option maxHeartbeats 2000000 in
theorem rm_k41 (hQ : RMayQ w bR os i q b g cap n) (hhi : hasO os i = true) (hhp : hasO os q = true) (h0 : b ≠ -1) (hb : hasO os b = true) (hp : parentM (kindO os q) = true) (ha : aboveO os q i = false) (hu : upIO os b = (q : Int)) (hk : kindO os i = 4) (hq0 : q ≠ 0) :
    Calls Tryz.prog 25 #[.pointer (some ⟨bR, 0, none⟩), .int .i64 i, .int .i64 q, .int .i64 b] w fun e w' => e = .returned (.int .i64 20) ∧ Below w.heap.size w w' := by
  have HHI := hide hhi
  have HHP := hide hhp
  have HI := hide (hQ.is i)
  have HP := hide (hQ.is q)
  rw [unhide HHI] at HI
  rw [unhide HHP] at HP
  have HB := hide (hQ.is b)
  rw [hb] at HB
  have HPA := hide hQ.par
  rw [hp] at HPA
  have HAB := hide hQ.above
  rw [ha] at HAB
  have c0 := hQ.c0
  obtain ⟨j, o, hbj, ho⟩ := hasO_yes hb
  have hjn := hQ.hn j hbj hb
  have cu := hQ.cu j hbj hjn
  have hjz : (j : Int) < (n : Int) := by omega
  clear ho hjn
  have ck := hQ.ck
  have hiz := hQ.hi
  rw [hk] at ck
  rw [hu] at cu
  subst hbj
  have y1 : ((q : Int) != (q : Int)) = false := by simp
  have y1' : ((q : Int) == (q : Int)) = true := by simp
  have z0 : ((j : Int) != -1) = true := by simp
  have z0' : ((j : Int) == -1) = false := by simp
  have x0 : ((q : Int) == 0) = false := by simpa using hq0
  have x0' : ¬ (q : Int) = 0 := by omega
  have x0'' : ((q : Int) != 0) = true := by simp; omega
  clear hQ hhi hhp hp ha hk hb hu
  go_enter Tryz.func25, Tryz.ntmps25
  go_wp2_with (first
    | (have _x := unhide HD2; go_at_call 67; refine (unhide HB).mono ?_; rintro e w1 ⟨rfl, rfl⟩)
    | (have _x := unhide HD1; go_at_call 67; refine (unhide HP).mono ?_; rintro e w1 ⟨rfl, rfl⟩; have HD2 := hide True.intro)
    | (go_at_call 67; refine (unhide HI).mono ?_; rintro e w1 ⟨rfl, rfl⟩; have HD1 := hide True.intro)
    | (go_at_call 68; refine (unhide HPA).mono ?_; rintro e w1 ⟨rfl, rfl⟩)
    | (go_at_call 69; refine (unhide HAB).mono ?_; rintro e w1 ⟨rfl, rfl⟩))
  go_ret
  exact ⟨rfl, Below.refl _ _⟩

set_option maxHeartbeats 2000000 in
theorem rm_d4f1 (hQ : RMayQ w bR os i q b g cap n) (hhi : hasO os i = true) (hhp : hasO os q = true) (h0 : b ≠ -1) (hb : hasO os b = true) (hp : parentM (kindO os q) = true) (ha : aboveO os q i = false) (hu : upIO os b = (q : Int)) (hk : kindO os i = 4) (hq0 : q = 0) (hd : documentM os i b = false) :
    Calls Tryz.prog 25 #[.pointer (some ⟨bR, 0, none⟩), .int .i64 i, .int .i64 q, .int .i64 b] w fun e w' => e = .returned (.int .i64 20) ∧ Below w.heap.size w w' := by
  have HHI := hide hhi
  have HHP := hide hhp
  have HI := hide (hQ.is i)
  have HP := hide (hQ.is q)
  rw [unhide HHI] at HI
  rw [unhide HHP] at HP
  have HB := hide (hQ.is b)
  rw [hb] at HB
  have HPA := hide hQ.par
  rw [hp] at HPA
  have HAB := hide hQ.above
  rw [ha] at HAB
  have HDO := hide hQ.doc
  rw [hd] at HDO
  have c0 := hQ.c0
  obtain ⟨j, o, hbj, ho⟩ := hasO_yes hb
  have hjn := hQ.hn j hbj hb
  have cu := hQ.cu j hbj hjn
  have hjz : (j : Int) < (n : Int) := by omega
  clear ho hjn
  have ck := hQ.ck
  have hiz := hQ.hi
  rw [hk] at ck
  rw [hu] at cu
  subst hbj
  have y1 : ((q : Int) != (q : Int)) = false := by simp
  have y1' : ((q : Int) == (q : Int)) = true := by simp
  have z0 : ((j : Int) != -1) = true := by simp
  have z0' : ((j : Int) == -1) = false := by simp
  subst hq0
  clear hQ hhi hhp hp ha hk hb hu hd
  go_enter Tryz.func25, Tryz.ntmps25
  go_wp2_with (first
    | (have _x := unhide HD2; go_at_call 67; refine (unhide HB).mono ?_; rintro e w1 ⟨rfl, rfl⟩)
    | (have _x := unhide HD1; go_at_call 67; refine (unhide HP).mono ?_; rintro e w1 ⟨rfl, rfl⟩; have HD2 := hide True.intro)
    | (go_at_call 67; refine (unhide HI).mono ?_; rintro e w1 ⟨rfl, rfl⟩; have HD1 := hide True.intro)
    | (go_at_call 68; refine (unhide HPA).mono ?_; rintro e w1 ⟨rfl, rfl⟩)
    | (go_at_call 69; refine (unhide HAB).mono ?_; rintro e w1 ⟨rfl, rfl⟩)
    | (go_at_call 70; refine (unhide HDO).mono ?_; rintro e w1 ⟨rfl, hb9⟩; have HB9 := hide hb9; clear hb9))
  go_ret
  exact ⟨rfl, unhide HB9⟩

set_option maxHeartbeats 2000000 in
theorem rm_dxf1 (hQ : RMayQ w bR os i q b g cap n) (hhi : hasO os i = true) (hhp : hasO os q = true) (h0 : b ≠ -1) (hb : hasO os b = true) (hp : parentM (kindO os q) = true) (ha : aboveO os q i = false) (hu : upIO os b = (q : Int)) (k : Int) (hk : kindO os i = k) (k0 : k ≠ 0) (k2 : k ≠ 2) (k4 : k ≠ 4) (hq0 : q = 0) (hd : documentM os i b = false) :
    Calls Tryz.prog 25 #[.pointer (some ⟨bR, 0, none⟩), .int .i64 i, .int .i64 q, .int .i64 b] w fun e w' => e = .returned (.int .i64 20) ∧ Below w.heap.size w w' := by
  have HHI := hide hhi
  have HHP := hide hhp
  have HI := hide (hQ.is i)
  have HP := hide (hQ.is q)
  rw [unhide HHI] at HI
  rw [unhide HHP] at HP
  have HB := hide (hQ.is b)
  rw [hb] at HB
  have HPA := hide hQ.par
  rw [hp] at HPA
  have HAB := hide hQ.above
  rw [ha] at HAB
  have HDO := hide hQ.doc
  rw [hd] at HDO
  have c0 := hQ.c0
  obtain ⟨j, o, hbj, ho⟩ := hasO_yes hb
  have hjn := hQ.hn j hbj hb
  have cu := hQ.cu j hbj hjn
  have hjz : (j : Int) < (n : Int) := by omega
  clear ho hjn
  have ck := hQ.ck
  have hiz := hQ.hi
  rw [hk] at ck
  rw [hu] at cu
  subst hbj
  have y1 : ((q : Int) != (q : Int)) = false := by simp
  have y1' : ((q : Int) == (q : Int)) = true := by simp
  have z0 : ((j : Int) != -1) = true := by simp
  have z0' : ((j : Int) == -1) = false := by simp
  subst hq0
  have w0 : (k == 0) = false := by simpa using k0
  have w2 : (k == 2) = false := by simpa using k2
  have w4 : (k == 4) = false := by simpa using k4
  clear hQ hhi hhp hp ha hk hb hu hd
  go_enter Tryz.func25, Tryz.ntmps25
  go_wp2_with (first
    | (have _x := unhide HD2; go_at_call 67; refine (unhide HB).mono ?_; rintro e w1 ⟨rfl, rfl⟩)
    | (have _x := unhide HD1; go_at_call 67; refine (unhide HP).mono ?_; rintro e w1 ⟨rfl, rfl⟩; have HD2 := hide True.intro)
    | (go_at_call 67; refine (unhide HI).mono ?_; rintro e w1 ⟨rfl, rfl⟩; have HD1 := hide True.intro)
    | (go_at_call 68; refine (unhide HPA).mono ?_; rintro e w1 ⟨rfl, rfl⟩)
    | (go_at_call 69; refine (unhide HAB).mono ?_; rintro e w1 ⟨rfl, rfl⟩)
    | (go_at_call 70; refine (unhide HDO).mono ?_; rintro e w1 ⟨rfl, hb9⟩; have HB9 := hide hb9; clear hb9))
  go_ret
  exact ⟨rfl, unhide HB9⟩

set_option maxHeartbeats 2000000 in
theorem rm_d4t1 (hQ : RMayQ w bR os i q b g cap n) (hhi : hasO os i = true) (hhp : hasO os q = true) (h0 : b ≠ -1) (hb : hasO os b = true) (hp : parentM (kindO os q) = true) (ha : aboveO os q i = false) (hu : upIO os b = (q : Int)) (hk : kindO os i = 4) (hq0 : q = 0) (hd : documentM os i b = true) :
    Calls Tryz.prog 25 #[.pointer (some ⟨bR, 0, none⟩), .int .i64 i, .int .i64 q, .int .i64 b] w fun e w' => e = .returned (.int .i64 0) ∧ Below w.heap.size w w' := by
  have HHI := hide hhi
  have HHP := hide hhp
  have HI := hide (hQ.is i)
  have HP := hide (hQ.is q)
  rw [unhide HHI] at HI
  rw [unhide HHP] at HP
  have HB := hide (hQ.is b)
  rw [hb] at HB
  have HPA := hide hQ.par
  rw [hp] at HPA
  have HAB := hide hQ.above
  rw [ha] at HAB
  have HDO := hide hQ.doc
  rw [hd] at HDO
  have c0 := hQ.c0
  obtain ⟨j, o, hbj, ho⟩ := hasO_yes hb
  have hjn := hQ.hn j hbj hb
  have cu := hQ.cu j hbj hjn
  have hjz : (j : Int) < (n : Int) := by omega
  clear ho hjn
  have ck := hQ.ck
  have hiz := hQ.hi
  rw [hk] at ck
  rw [hu] at cu
  subst hbj
  have y1 : ((q : Int) != (q : Int)) = false := by simp
  have y1' : ((q : Int) == (q : Int)) = true := by simp
  have z0 : ((j : Int) != -1) = true := by simp
  have z0' : ((j : Int) == -1) = false := by simp
  subst hq0
  clear hQ hhi hhp hp ha hk hb hu hd
  go_enter Tryz.func25, Tryz.ntmps25
  go_wp2_with (first
    | (have _x := unhide HD2; go_at_call 67; refine (unhide HB).mono ?_; rintro e w1 ⟨rfl, rfl⟩)
    | (have _x := unhide HD1; go_at_call 67; refine (unhide HP).mono ?_; rintro e w1 ⟨rfl, rfl⟩; have HD2 := hide True.intro)
    | (go_at_call 67; refine (unhide HI).mono ?_; rintro e w1 ⟨rfl, rfl⟩; have HD1 := hide True.intro)
    | (go_at_call 68; refine (unhide HPA).mono ?_; rintro e w1 ⟨rfl, rfl⟩)
    | (go_at_call 69; refine (unhide HAB).mono ?_; rintro e w1 ⟨rfl, rfl⟩)
    | (go_at_call 70; refine (unhide HDO).mono ?_; rintro e w1 ⟨rfl, hb9⟩; have HB9 := hide hb9; clear hb9))
  go_ret
  exact ⟨rfl, unhide HB9⟩

set_option maxHeartbeats 2000000 in
theorem rm_dxt1 (hQ : RMayQ w bR os i q b g cap n) (hhi : hasO os i = true) (hhp : hasO os q = true) (h0 : b ≠ -1) (hb : hasO os b = true) (hp : parentM (kindO os q) = true) (ha : aboveO os q i = false) (hu : upIO os b = (q : Int)) (k : Int) (hk : kindO os i = k) (k0 : k ≠ 0) (k2 : k ≠ 2) (k4 : k ≠ 4) (hq0 : q = 0) (hd : documentM os i b = true) :
    Calls Tryz.prog 25 #[.pointer (some ⟨bR, 0, none⟩), .int .i64 i, .int .i64 q, .int .i64 b] w fun e w' => e = .returned (.int .i64 0) ∧ Below w.heap.size w w' := by
  have HHI := hide hhi
  have HHP := hide hhp
  have HI := hide (hQ.is i)
  have HP := hide (hQ.is q)
  rw [unhide HHI] at HI
  rw [unhide HHP] at HP
  have HB := hide (hQ.is b)
  rw [hb] at HB
  have HPA := hide hQ.par
  rw [hp] at HPA
  have HAB := hide hQ.above
  rw [ha] at HAB
  have HDO := hide hQ.doc
  rw [hd] at HDO
  have c0 := hQ.c0
  obtain ⟨j, o, hbj, ho⟩ := hasO_yes hb
  have hjn := hQ.hn j hbj hb
  have cu := hQ.cu j hbj hjn
  have hjz : (j : Int) < (n : Int) := by omega
  clear ho hjn
  have ck := hQ.ck
  have hiz := hQ.hi
  rw [hk] at ck
  rw [hu] at cu
  subst hbj
  have y1 : ((q : Int) != (q : Int)) = false := by simp
  have y1' : ((q : Int) == (q : Int)) = true := by simp
  have z0 : ((j : Int) != -1) = true := by simp
  have z0' : ((j : Int) == -1) = false := by simp
  subst hq0
  have w0 : (k == 0) = false := by simpa using k0
  have w2 : (k == 2) = false := by simpa using k2
  have w4 : (k == 4) = false := by simpa using k4
  clear hQ hhi hhp hp ha hk hb hu hd
  go_enter Tryz.func25, Tryz.ntmps25
  go_wp2_with (first
    | (have _x := unhide HD2; go_at_call 67; refine (unhide HB).mono ?_; rintro e w1 ⟨rfl, rfl⟩)
    | (have _x := unhide HD1; go_at_call 67; refine (unhide HP).mono ?_; rintro e w1 ⟨rfl, rfl⟩; have HD2 := hide True.intro)
    | (go_at_call 67; refine (unhide HI).mono ?_; rintro e w1 ⟨rfl, rfl⟩; have HD1 := hide True.intro)
    | (go_at_call 68; refine (unhide HPA).mono ?_; rintro e w1 ⟨rfl, rfl⟩)
    | (go_at_call 69; refine (unhide HAB).mono ?_; rintro e w1 ⟨rfl, rfl⟩)
    | (go_at_call 70; refine (unhide HDO).mono ?_; rintro e w1 ⟨rfl, hb9⟩; have HB9 := hide hb9; clear hb9))
  go_ret
  exact ⟨rfl, unhide HB9⟩

set_option maxHeartbeats 2000000 in
theorem rm_n21 (hQ : RMayQ w bR os i q b g cap n) (hhi : hasO os i = true) (hhp : hasO os q = true) (h0 : b ≠ -1) (hb : hasO os b = true) (hp : parentM (kindO os q) = true) (ha : aboveO os q i = false) (hu : upIO os b = (q : Int)) (hk : kindO os i = 2) (hq0 : q ≠ 0) :
    Calls Tryz.prog 25 #[.pointer (some ⟨bR, 0, none⟩), .int .i64 i, .int .i64 q, .int .i64 b] w fun e w' => e = .returned (.int .i64 0) ∧ Below w.heap.size w w' := by
  have HHI := hide hhi
  have HHP := hide hhp
  have HI := hide (hQ.is i)
  have HP := hide (hQ.is q)
  rw [unhide HHI] at HI
  rw [unhide HHP] at HP
  have HB := hide (hQ.is b)
  rw [hb] at HB
  have HPA := hide hQ.par
  rw [hp] at HPA
  have HAB := hide hQ.above
  rw [ha] at HAB
  have c0 := hQ.c0
  obtain ⟨j, o, hbj, ho⟩ := hasO_yes hb
  have hjn := hQ.hn j hbj hb
  have cu := hQ.cu j hbj hjn
  have hjz : (j : Int) < (n : Int) := by omega
  clear ho hjn
  have ck := hQ.ck
  have hiz := hQ.hi
  rw [hk] at ck
  rw [hu] at cu
  subst hbj
  have y1 : ((q : Int) != (q : Int)) = false := by simp
  have y1' : ((q : Int) == (q : Int)) = true := by simp
  have z0 : ((j : Int) != -1) = true := by simp
  have z0' : ((j : Int) == -1) = false := by simp
  have x0 : ((q : Int) == 0) = false := by simpa using hq0
  have x0' : ¬ (q : Int) = 0 := by omega
  have x0'' : ((q : Int) != 0) = true := by simp; omega
  clear hQ hhi hhp hp ha hk hb hu
  go_enter Tryz.func25, Tryz.ntmps25
  go_wp2_with (first
    | (have _x := unhide HD2; go_at_call 67; refine (unhide HB).mono ?_; rintro e w1 ⟨rfl, rfl⟩)
    | (have _x := unhide HD1; go_at_call 67; refine (unhide HP).mono ?_; rintro e w1 ⟨rfl, rfl⟩; have HD2 := hide True.intro)
    | (go_at_call 67; refine (unhide HI).mono ?_; rintro e w1 ⟨rfl, rfl⟩; have HD1 := hide True.intro)
    | (go_at_call 68; refine (unhide HPA).mono ?_; rintro e w1 ⟨rfl, rfl⟩)
    | (go_at_call 69; refine (unhide HAB).mono ?_; rintro e w1 ⟨rfl, rfl⟩))
  go_ret
  exact ⟨rfl, Below.refl _ _⟩

set_option maxHeartbeats 2000000 in
theorem rm_nx1 (hQ : RMayQ w bR os i q b g cap n) (hhi : hasO os i = true) (hhp : hasO os q = true) (h0 : b ≠ -1) (hb : hasO os b = true) (hp : parentM (kindO os q) = true) (ha : aboveO os q i = false) (hu : upIO os b = (q : Int)) (k : Int) (hk : kindO os i = k) (k0 : k ≠ 0) (k2 : k ≠ 2) (k4 : k ≠ 4) (hq0 : q ≠ 0) :
    Calls Tryz.prog 25 #[.pointer (some ⟨bR, 0, none⟩), .int .i64 i, .int .i64 q, .int .i64 b] w fun e w' => e = .returned (.int .i64 0) ∧ Below w.heap.size w w' := by
  have HHI := hide hhi
  have HHP := hide hhp
  have HI := hide (hQ.is i)
  have HP := hide (hQ.is q)
  rw [unhide HHI] at HI
  rw [unhide HHP] at HP
  have HB := hide (hQ.is b)
  rw [hb] at HB
  have HPA := hide hQ.par
  rw [hp] at HPA
  have HAB := hide hQ.above
  rw [ha] at HAB
  have c0 := hQ.c0
  obtain ⟨j, o, hbj, ho⟩ := hasO_yes hb
  have hjn := hQ.hn j hbj hb
  have cu := hQ.cu j hbj hjn
  have hjz : (j : Int) < (n : Int) := by omega
  clear ho hjn
  have ck := hQ.ck
  have hiz := hQ.hi
  rw [hk] at ck
  rw [hu] at cu
  subst hbj
  have y1 : ((q : Int) != (q : Int)) = false := by simp
  have y1' : ((q : Int) == (q : Int)) = true := by simp
  have z0 : ((j : Int) != -1) = true := by simp
  have z0' : ((j : Int) == -1) = false := by simp
  have x0 : ((q : Int) == 0) = false := by simpa using hq0
  have x0' : ¬ (q : Int) = 0 := by omega
  have x0'' : ((q : Int) != 0) = true := by simp; omega
  have w0 : (k == 0) = false := by simpa using k0
  have w2 : (k == 2) = false := by simpa using k2
  have w4 : (k == 4) = false := by simpa using k4
  clear hQ hhi hhp hp ha hk hb hu
  go_enter Tryz.func25, Tryz.ntmps25
  go_wp2_with (first
    | (have _x := unhide HD2; go_at_call 67; refine (unhide HB).mono ?_; rintro e w1 ⟨rfl, rfl⟩)
    | (have _x := unhide HD1; go_at_call 67; refine (unhide HP).mono ?_; rintro e w1 ⟨rfl, rfl⟩; have HD2 := hide True.intro)
    | (go_at_call 67; refine (unhide HI).mono ?_; rintro e w1 ⟨rfl, rfl⟩; have HD1 := hide True.intro)
    | (go_at_call 68; refine (unhide HPA).mono ?_; rintro e w1 ⟨rfl, rfl⟩)
    | (go_at_call 69; refine (unhide HAB).mono ?_; rintro e w1 ⟨rfl, rfl⟩))
  go_ret
  exact ⟨rfl, Below.refl _ _⟩
end
end Go.Proofs.YtnclnijlpchdnaaGreat

namespace Go.Proofs.YtnclnijlpchdnaaGreat
open Go.RowKit

/-- Only the first node is a document. -/
def K0 (os : List OneM) : Prop := ∀ (i : Nat), kindO os i = 0 → i = 0

section
variable {w W W' : World} {base bR : Nat} {os : List OneM} {G : Nat → Prop} {ns : List NodeM}

theorem fits_doc {i q : Nat} {b : Int} (hq0 : q = 0) : fitsO os i q b = (kindO os i != 2 && documentM os i b) := by
  unfold fitsO
  rw [if_pos (by omega), fitsDoc_eq]
theorem fits_else {i q : Nat} {b : Int} (hq0 : ¬ q = 0) : fitsO os i q b = (kindO os i != 0 && kindO os i != 4) := by
  unfold fitsO
  rw [if_neg (by omega)]
theorem above_self (hs : Sim ns os) (i : Nat) (hi : i < os.length) : aboveO os i i = true := by
  have ho : os[i]? = some os[i] := List.getElem?_eq_getElem hi
  obtain ⟨path, hp⟩ := hs.ends i hi
  rw [aboveO_of ho (hasO_of ho) hp]
  match path, hp with
  | [], hp =>
    have : (i : Int) = -1 := hp
    omega
  | x :: r, hp =>
    obtain ⟨e, _⟩ := hp
    obtain rfl : i = x := by omega
    exact mem_inPath.2 (by simp)

set_option maxHeartbeats 1000000 in
theorem rmay_none1 (hS : RfS w base bR os G) (id p b : Int) (hno : hasO os id = false) :
    Calls Tryz.prog 25 #[.pointer (some ⟨bR, 0, none⟩), .int .i64 id, .int .i64 p, .int .i64 b] w fun e w' => e = .returned (.int .i64 6) ∧ Below w.heap.size w w' := by
  obtain ⟨g', cap', rs, h, rfl, _⟩ := hS
  have HI := hide (refIs_any h id)
  rw [hno] at HI
  clear h hno
  go_enter Tryz.func25, Tryz.ntmps25
  go_wp2_with (first | (go_at_call 67; refine (unhide HI).mono ?_; rintro e w1 ⟨rfl, rfl⟩))
  go_ret
  exact ⟨rfl, Below.refl _ _⟩
set_option maxHeartbeats 1000000 in
theorem rmay_none2 (hS : RfS w base bR os G) (id p b : Int) (hh : hasO os id = true) (hno : hasO os p = false) :
    Calls Tryz.prog 25 #[.pointer (some ⟨bR, 0, none⟩), .int .i64 id, .int .i64 p, .int .i64 b] w fun e w' => e = .returned (.int .i64 6) ∧ Below w.heap.size w w' := by
  obtain ⟨g', cap', rs, h, rfl, _⟩ := hS
  have HI := hide (refIs_any h id)
  have HP := hide (refIs_any h p)
  rw [hno] at HP
  rw [hh] at HI
  clear h hno hh
  go_enter Tryz.func25, Tryz.ntmps25
  go_wp2_with (first
    | (have _x := unhide HD1; go_at_call 67; refine (unhide HP).mono ?_; rintro e w1 ⟨rfl, rfl⟩)
    | (go_at_call 67; refine (unhide HI).mono ?_; rintro e w1 ⟨rfl, rfl⟩; have HD1 := hide True.intro))
  go_ret
  exact ⟨rfl, Below.refl _ _⟩

theorem refMay_any (hS : RfS w base bR os G) (hs : Sim ns os) (h00 : K0 os) (id p b : Int) :
    Calls Tryz.prog 25 #[.pointer (some ⟨bR, 0, none⟩), .int .i64 id, .int .i64 p, .int .i64 b] w fun e w' => e = .returned (.int .i64 (mayE os id p b)) ∧ Below w.heap.size w w' := by
  unfold mayE
  cases hhi : hasO os id with
  | false => rw [if_pos (by simp)]; exact rmay_none1 hS id p b hhi
  | true =>
    cases hhp : hasO os p with
    | false => rw [if_pos (by simp)]; exact rmay_none2 hS id p b hhi hhp
    | true =>
      rw [if_neg (by simp)]
      obtain ⟨i, oi, rfl, hoi⟩ := hasO_yes hhi
      obtain ⟨q, oq, rfl, hoq⟩ := hasO_yes hhp
      have hil := (List.getElem?_eq_some_iff.1 hoi).1
      obtain ⟨g, cap, n, hQ⟩ := rmayQ hS hs i q hil (List.getElem?_eq_some_iff.1 hoq).1 b
      have hkz : aboveO os q i = false → q = 0 → kindO os i ≠ 0 := fun ha hq0 e => by
        obtain rfl := h00 i e
        subst hq0
        rw [above_self hs 0 hil] at ha
        cases ha
      by_cases h0 : b = -1
      · rw [if_neg (by simp [h0])]
        cases hp : parentM (kindO os q) with
        | false => rw [if_pos (.inl rfl)]; exact rm_p0 hQ hhi hhp h0 hp
        | true =>
          cases ha : aboveO os q i with
          | true => rw [if_pos (.inr rfl)]; exact rm_a0 hQ hhi hhp h0 hp ha
          | false =>
            rw [if_neg (by simp), if_neg (by simp [h0])]
            by_cases hq0 : q = 0
            · rw [fits_doc hq0]
              have k0 := hkz ha hq0
              by_cases k2 : kindO os i = 2
              · rw [if_pos (by simp [k2])]; exact rm_k20 hQ hhi hhp h0 hp ha k2 hq0
              · rw [show (kindO os i != 2) = true by simpa using k2, Bool.true_and]
                by_cases k4 : kindO os i = 4
                · cases hd : documentM os i b with
                  | false => rw [if_pos rfl]; exact rm_d4f0 hQ hhi hhp h0 hp ha k4 hq0 hd
                  | true => rw [if_neg (by simp)]; exact rm_d4t0 hQ hhi hhp h0 hp ha k4 hq0 hd
                · cases hd : documentM os i b with
                  | false => rw [if_pos rfl]; exact rm_dxf0 hQ hhi hhp h0 hp ha _ rfl k0 k2 k4 hq0 hd
                  | true => rw [if_neg (by simp)]; exact rm_dxt0 hQ hhi hhp h0 hp ha _ rfl k0 k2 k4 hq0 hd
            · rw [fits_else hq0]
              by_cases k0 : kindO os i = 0
              · rw [if_pos (by simp [k0])]; exact rm_k00 hQ hhi hhp h0 hp ha k0
              · by_cases k4 : kindO os i = 4
                · rw [if_pos (by simp [k4])]; exact rm_k40 hQ hhi hhp h0 hp ha k4 hq0
                · rw [if_neg (by simp [k0, k4])]
                  by_cases k2 : kindO os i = 2
                  · exact rm_n20 hQ hhi hhp h0 hp ha k2 hq0
                  · exact rm_nx0 hQ hhi hhp h0 hp ha _ rfl k0 k2 k4 hq0
      · cases hb : hasO os b with
        | false => rw [if_pos ⟨h0, rfl⟩]; exact rm_b hQ hhi hhp h0 hb
        | true =>
          rw [if_neg (by simp)]
          cases hp : parentM (kindO os q) with
          | false => rw [if_pos (.inl rfl)]; exact rm_p1 hQ hhi hhp h0 hb hp
          | true =>
            cases ha : aboveO os q i with
            | true => rw [if_pos (.inr rfl)]; exact rm_a1 hQ hhi hhp h0 hb hp ha
            | false =>
              rw [if_neg (by simp)]
              by_cases hu : upIO os b = (q : Int)
              · rw [if_neg (by simp [hu])]
                by_cases hq0 : q = 0
                · rw [fits_doc hq0]
                  have k0 := hkz ha hq0
                  by_cases k2 : kindO os i = 2
                  · rw [if_pos (by simp [k2])]; exact rm_k21 hQ hhi hhp h0 hb hp ha hu k2 hq0
                  · rw [show (kindO os i != 2) = true by simpa using k2, Bool.true_and]
                    by_cases k4 : kindO os i = 4
                    · cases hd : documentM os i b with
                      | false => rw [if_pos rfl]; exact rm_d4f1 hQ hhi hhp h0 hb hp ha hu k4 hq0 hd
                      | true => rw [if_neg (by simp)]; exact rm_d4t1 hQ hhi hhp h0 hb hp ha hu k4 hq0 hd
                    · cases hd : documentM os i b with
                      | false => rw [if_pos rfl]; exact rm_dxf1 hQ hhi hhp h0 hb hp ha hu _ rfl k0 k2 k4 hq0 hd
                      | true => rw [if_neg (by simp)]; exact rm_dxt1 hQ hhi hhp h0 hb hp ha hu _ rfl k0 k2 k4 hq0 hd
                · rw [fits_else hq0]
                  by_cases k0 : kindO os i = 0
                  · rw [if_pos (by simp [k0])]; exact rm_k01 hQ hhi hhp h0 hb hp ha hu k0
                  · by_cases k4 : kindO os i = 4
                    · rw [if_pos (by simp [k4])]; exact rm_k41 hQ hhi hhp h0 hb hp ha hu k4 hq0
                    · rw [if_neg (by simp [k0, k4])]
                      by_cases k2 : kindO os i = 2
                      · exact rm_n21 hQ hhi hhp h0 hb hp ha hu k2 hq0
                      · exact rm_nx1 hQ hhi hhp h0 hb hp ha hu _ rfl k0 k2 k4 hq0
              · rw [if_pos ⟨h0, hu⟩]
                exact rm_u hQ hhi hhp h0 hb hp ha _ rfl hu
end
end Go.Proofs.YtnclnijlpchdnaaGreat

namespace Go.Proofs.YtnclnijlpchdnaaGreat
open Go.RowKit

theorem simR_unlink {ns : List NodeM} {os : List OneM} (hs : Sim ns os) (c : Int) : ∃ ms, Sim ms (unlinkR os c) := by
  by_cases e0 : unlinkE os c = 0
  · have hh : hasO os c = true := by
      cases hh : hasO os c with
      | false => rw [unlinkE, if_pos hh] at e0; cases e0
      | true => rfl
    obtain ⟨ci, oc, rfl, hoc⟩ := hasO_yes hh
    obtain ⟨nc, hnc, smc⟩ := hs.get hoc
    have hu : oc.up ≠ -1 := fun e => by
      rw [unlinkE, if_neg (by rw [hh]; decide), upIO_of hoc, if_pos e] at e0
      cases e0
    obtain ⟨p, op, A, B, hup, hop, hk⟩ := hs.cut hoc hu
    have hr : unlinkR os ci = unlinkO os p ci := by rw [unlinkR, if_pos e0, upIO_of hoc, hup]; simp
    rw [hr]
    exact ⟨_, hs.unlink hnc hop hoc hup hk⟩
  · rw [unlinkR, if_neg e0]; exact ⟨ns, hs⟩
theorem simR_link {ns : List NodeM} {os : List OneM} (hs : Sim ns os) (p c b : Int) : ∃ ms, Sim ms (linkR os p c b) := by
  by_cases e0 : linkE os p c b = 0
  · have hno : ¬ (hasO os p && hasO os c && (b == -1 || hasO os b)) = false := fun e => by rw [linkE, if_pos e] at e0; cases e0
    have hno' : hasO os p = true ∧ hasO os c = true ∧ (b = -1 ∨ hasO os b = true) := by
      have := hno
      simp only [Bool.not_eq_false, Bool.and_eq_true, Bool.or_eq_true, beq_iff_eq] at this
      exact ⟨this.1.1, this.1.2, this.2⟩
    obtain ⟨hp, hc, hb⟩ := hno'
    obtain ⟨pi, op, rfl, hop⟩ := hasO_yes hp
    obtain ⟨ci, oc, rfl, hoc⟩ := hasO_yes hc
    obtain ⟨np, hnp, smp⟩ := hs.get hop
    obtain ⟨path, hpath⟩ := hs.ends pi (List.getElem?_eq_some_iff.1 hop).1
    have hr : linkR os pi ci b = linkO os pi ci b := by rw [linkR, if_pos e0]; simp
    rw [hr]
    have e0' := e0
    unfold linkE at e0'
    rw [if_neg hno] at e0'
    split at e0'
    · cases e0'
    · rename_i k1
      split at e0'
      · cases e0'
      · rename_i k2
        split at e0'
        · cases e0'
        · rename_i k3
          rw [kindO_of hop, kindO_of hoc] at k1
          rw [upIO_of hoc, aboveO_of hop (hasO_of hoc) hpath] at k2
          have hup : oc.up = -1 := Decidable.byContradiction fun e => k2 (.inl e)
          have hnot : ci ∉ path := fun e => k2 (.inr (mem_inPath.2 e))
          have hmem : b = -1 ∨ ∃ x ∈ op.kids, b = (x : Int) := by
            rcases hb with hb | hb
            · exact .inl hb
            · by_cases hb1 : b = -1
              · exact .inl hb1
              · obtain ⟨bi, ob, rfl, hob⟩ := hasO_yes hb
                have hub : ob.up = (pi : Int) := Decidable.byContradiction fun e => k3 ⟨hb1, by rw [upIO_of hob]; exact e⟩
                rcases hs.up bi ob hob with e | ⟨q, m, e, hqm, hi⟩
                · omega
                · have : q = pi := by omega
                  subst this
                  rw [hop] at hqm; cases hqm
                  exact .inr ⟨bi, hi, rfl⟩
          exact ⟨_, hs.link hnp hop hoc hup (fun e => k1 (.inr (.inl e))) (fun e => k1 (.inr (.inr e))) hmem hpath hnot⟩
  · rw [linkR, if_neg e0]; exact ⟨ns, hs⟩

/-- The document's arena behind calls, with the plain nodes' own soundness. -/
def URS (G : Nat → Prop) (w w' : World) (base bR : Nat) (os : List OneM) : Prop := URf G w w' base bR os ∧ ∃ ms, Sim ms os

section
variable {w W W' : World} {base bR : Nat} {os : List OneM} {G : Nat → Prop} {ns : List NodeM}

theorem urs_of (hS : RfS w base bR os G) (hs : Sim ns os) (hb : Below w.heap.size w W) : URS G w W base bR os := ⟨hS.upd hb, ns, hs⟩
theorem URS.after (hb : Below w.heap.size w W) (h : URS G W W' base bR os) : URS G w W' base bR os := ⟨h.1.after hb, h.2⟩
theorem URS.below (h : URS G w W base bR os) (hb : Below W.heap.size W W') : URS G w W' base bR os := ⟨h.1.then hb, h.2⟩
theorem URf.next {w1 w2 : World} {os1 : List OneM} {G1 : Nat → Prop} (hm : Mod G w w1) (hG : ∀ k, G1 k → G k ∨ w.heap.size ≤ k) (h : URf G1 w1 w2 base bR os1) : URf G w w2 base bR os1 := by
  obtain ⟨G2, h1, h2, h3⟩ := h
  refine ⟨G2, h1, ⟨h2.os.trans hm.os, h2.tape.trans hm.tape, h2.output.trans hm.output, Nat.le_trans hm.size h2.size, fun k hk hf => ?_⟩, fun k hk => ?_⟩
  · rw [h2.block k (Nat.lt_of_lt_of_le hk hm.size) (fun e => (hG k e).elim hf (fun e => by omega)), hm.block k hk hf]
  · rcases h3 k hk with e | e
    · exact hG k e
    · exact .inr (Nat.le_trans hm.size e)
theorem URS.unlink (h : URS G w W base bR os) (c : Int) :
    Calls Tryz.prog 72 #[.pointer (some ⟨bR, 0, none⟩), .int .i64 c] W fun e w' => e = .returned (.int .i64 (unlinkE os c)) ∧ URS G w w' base bR (unlinkR os c) := by
  obtain ⟨⟨G1, hS, hm, hG⟩, ms, hs⟩ := h
  exact (refUnlink_sim hS hs c).mono fun e w' ⟨h1, h2⟩ => ⟨h1, URf.next hm hG h2, simR_unlink hs c⟩
theorem URS.link (h : URS G w W base bR os) (p c b : Int) :
    Calls Tryz.prog 73 #[.pointer (some ⟨bR, 0, none⟩), .int .i64 p, .int .i64 c, .int .i64 b] W fun e w' => e = .returned (.int .i64 (linkE os p c b)) ∧ URS G w w' base bR (linkR os p c b) := by
  obtain ⟨⟨G1, hS, hm, hG⟩, ms, hs⟩ := h
  exact (refLink_sim hS hs p c b).mono fun e w' ⟨h1, h2⟩ => ⟨h1, URf.next hm hG h2, simR_link hs p c b⟩
theorem URS.mod (h : URS G w W base bR os) : Mod G w W := by
  obtain ⟨⟨G1, hS, hm, hG⟩, _⟩ := h
  exact hm

theorem refRemove_any (hS : RfS w base bR os G) (hs : Sim ns os) (c : Int) :
    Calls Tryz.prog 27 #[.pointer (some ⟨bR, 0, none⟩), .int .i64 c] w fun e w' => e = .returned (.int .i64 (removeE os c)) ∧ URS G w w' base bR (unlinkR os c) := by
  have HIS : Hid (Calls Tryz.prog 67 #[.pointer (some ⟨bR, 0, none⟩), .int .i64 c] w fun e w' => e = .returned (.bool (hasO os c)) ∧ w = w') := hide (by
    obtain ⟨g', cap', rs, h, rfl, _⟩ := hS
    exact refIs_any h c)
  have HU := hide ((urs_of hS hs (Below.refl _ _)).unlink c)
  have HS := hide (urs_of hS hs (Below.refl _ _))
  unfold removeE
  cases hh : hasO os c with
  | false =>
    have e6 : unlinkE os c = 6 := by rw [unlinkE, if_pos hh]
    have hr : unlinkR os c = os := by rw [unlinkR, e6, if_neg (by decide)]
    rw [e6, hr, if_neg (by decide)]
    rw [hh] at HIS
    clear hS hs hh e6 hr HU
    go_enter Tryz.func27, Tryz.ntmps27
    go_wp2_with (first | (go_at_call 67; refine (unhide HIS).mono ?_; rintro e w1 ⟨rfl, rfl⟩))
    go_ret
    exact ⟨rfl, unhide HS⟩
  | true =>
    rw [hh] at HIS
    have hv : unlinkE os c = 5 ∨ unlinkE os c = 0 := by
      unfold unlinkE
      rw [hh, if_neg (by simp)]
      split
      · exact .inl rfl
      · exact .inr rfl
    generalize unlinkR os c = o2 at HU ⊢
    rcases hv with hv | hv
    · rw [hv] at HU ⊢
      rw [if_pos rfl]
      clear hS hs hh hv HS
      go_enter Tryz.func27, Tryz.ntmps27
      go_wp2_with (first
        | (go_at_call 67; refine (unhide HIS).mono ?_; rintro e w1 ⟨rfl, rfl⟩)
        | (go_at_call 72; refine (unhide HU).mono ?_; rintro e w1 ⟨rfl, hu⟩; have HU1 := hide hu; clear hu))
      go_ret
      exact ⟨rfl, unhide HU1⟩
    · rw [hv] at HU ⊢
      rw [if_neg (by decide)]
      clear hS hs hh hv HS
      go_enter Tryz.func27, Tryz.ntmps27
      go_wp2_with (first
        | (go_at_call 67; refine (unhide HIS).mono ?_; rintro e w1 ⟨rfl, rfl⟩)
        | (go_at_call 72; refine (unhide HU).mono ?_; rintro e w1 ⟨rfl, hu⟩; have HU1 := hide hu; clear hu))
      go_ret
      exact ⟨rfl, unhide HU1⟩
end
end Go.Proofs.YtnclnijlpchdnaaGreat

namespace Go.Proofs.YtnclnijlpchdnaaGreat
open Go.RowKit

/-- What the document's Insert calls. -/
structure RInsQ (w : World) (base bR : Nat) (os : List OneM) (G : Nat → Prop) (i : Nat) (p b : Int) (g cap : Nat) : Prop where
  may : Calls Tryz.prog 25 #[.pointer (some ⟨bR, 0, none⟩), .int .i64 i, .int .i64 p, .int .i64 b] w fun e w' => e = .returned (.int .i64 0) ∧ Below w.heap.size w w'
  node : ∀ W, Below w.heap.size w W → Calls Tryz.prog 33 #[.pointer (some ⟨bR, 0, none⟩), .int .i64 i] W fun e w' => ∃ v0 v1 v6 v7 v8 v9 v11 v2 v4 v5 ao n cp, e = .returned (.tuple #[.agg #[.int .i64 v0, .int .i64 v1, .string v2, .slice ao n cp, .string v4, .string v5, .int .i64 v6, .int .i64 v7, .int .i64 v8, .int .i64 v9, .int .i64 (nextO os i), .int .i64 v11], .int .i64 0]) ∧ Below w.heap.size w w'
  kids : ∀ W, Below w.heap.size w W → Calls Tryz.prog 71 #[.pointer (some ⟨bR, 0, none⟩), .int .i64 i] W fun e w' => ∃ a c, e = .returned (.slice a (kidsO os i).length c) ∧ IntsIn w' a (kidsO os i) ∧ (∀ b off, a = some ⟨b, off, none⟩ → w.heap.size ≤ b ∧ b < w'.heap.size) ∧ Below w.heap.size w w'
  nodes : ∀ W, Below w.heap.size w W → NodesAt W bR os g cap
  few : (kidsO os i).length ≤ 32768
  old : ∀ k, G k → k < w.heap.size
  start : ∀ W, Below w.heap.size w W → URS G W W base bR os

section
variable {w W W' : World} {base bR : Nat} {os : List OneM} {G : Nat → Prop} {ns : List NodeM}

theorem rinsQ (hS : RfS w base bR os G) (hs : Sim ns os) (h00 : K0 os) (i : Nat) (hi : i < os.length) (p b : Int) (hm : mayE os i p b = 0) : ∃ g cap, RInsQ w base bR os G i p b g cap := by
  obtain ⟨g, cap, hN⟩ := nodesAt hS
  have ho : os[i]? = some os[i] := List.getElem?_eq_getElem hi
  refine ⟨g, cap, ?_, fun W hW => ?_, fun W hW => ?_, hN, ?_, fun k hk => (hS.lt hk).2, fun W hW => urs_of (hS.below hW) hs (Below.refl _ _)⟩
  · have := refMay_any hS hs h00 i p b
    rw [hm] at this
    exact this
  · obtain ⟨g', cap', rs, h, rfl, _⟩ := hS
    have hl := osOf_len rs
    have hr : rs[i]? = some rs[i] := List.getElem?_eq_getElem (by omega)
    refine (refNode_in (h.below hW) hs i _ hr).mono fun e w' ⟨na, nc, h1, _, h3⟩ => ?_
    refine ⟨_, _, _, _, _, _, _, _, _, _, _, _, _, by rw [h1, show nextO (osOf rs) i = (nbr (osOf rs) i rs[i].o).2 by simp [nextO, osOf_get hr]]; rfl, hW.trans (h3.mono hW.size)⟩
  · obtain ⟨g', cap', rs, h, rfl, _⟩ := hS
    have hl := osOf_len rs
    have hr : rs[i]? = some rs[i] := List.getElem?_eq_getElem (by omega)
    refine (refKids_in (h.below hW) i _ hr).mono fun e w' ⟨v, h1, h2, h3⟩ => ?_
    rw [kidsO_of (osOf_get hr)]
    obtain ⟨a, c, rfl, h4, _⟩ := ownsRow_ints h2
    refine ⟨a, c, h1, h4, fun b off e => ?_, hW.trans (h3.mono hW.size)⟩
    have := ownsRow_base h2 (k := b) (by rw [e]; rfl)
    exact ⟨Nat.le_trans hW.size this.1, this.2⟩
  · have hK := hs.kids i _ ho
    have hm := (hN w (Below.refl _ _)).most
    have := List.Nodup.length_le_of_subset hK.nodup (l₂ := List.range os.length) (fun x hx => List.mem_range.2 (by obtain ⟨oc, hoc, _⟩ := hs.down i _ x ho hx; exact (List.getElem?_eq_some_iff.1 hoc).1))
    simp at this
    rw [kidsO_of ho]
    omega

theorem rins_no (hS : RfS w base bR os G) (hs : Sim ns os) (h00 : K0 os) (id p b : Int) (hm : mayE os id p b ≠ 0) :
    Calls Tryz.prog 26 #[.pointer (some ⟨bR, 0, none⟩), .int .i64 id, .int .i64 p, .int .i64 b] w fun e w' => e = .returned (.int .i64 (mayE os id p b)) ∧ URS G w w' base bR os := by
  have HM := hide (refMay_any hS hs h00 id p b)
  have HU : Hid (∀ W, Below w.heap.size w W → URS G w W base bR os) := hide (fun W hb => urs_of hS hs hb)
  generalize mayE os id p b = v at HM hm ⊢
  have hz : (v != 0) = true := by simpa using hm
  clear hS hs
  go_enter Tryz.func26, Tryz.ntmps26
  go_wp2_with (first | (go_at_call 25; refine (unhide HM).mono ?_; rintro e w1 ⟨rfl, hb1⟩))
  go_ret
  exact ⟨rfl, (unhide HU) _ hb1⟩

set_option maxHeartbeats 4000000 in
theorem rins_o1 (i : Nat) (hil : i < os.length) (p b : Int) (g cap : Nat) (hQ : RInsQ w base bR os G i p b g cap) (hbi : b ≠ (i : Int)) (k : Int) (hk : kindO os i = k) (h5 : k ≠ 5) :
    Calls Tryz.prog 26 #[.pointer (some ⟨bR, 0, none⟩), .int .i64 i, .int .i64 p, .int .i64 b] w fun e w' => e = .returned (.int .i64 0) ∧ URS G w w' base bR (putO p b os i) := by
  have HQ := hide hQ
  have HK := hide hk
  have HIL := hide hil
  obtain ⟨n, hne⟩ : ∃ n, os.length = n := ⟨_, rfl⟩
  have hiz : (i : Int) < (n : Int) := by omega
  have HNE := hide hne
  have hz : (b == (i : Int)) = false := by simpa using hbi
  have z5 : (k == 5) = false := by simpa using h5
  clear hQ hk hil hne hbi
  go_enter Tryz.func26, Tryz.ntmps26
  set_option maxRecDepth 10000 in
  go_wp2_with (first
    | (go_at_call 25; refine (unhide HQ).may.mono ?_; rintro e w1 ⟨rfl, hb⟩; have hat := (unhide HQ).nodes _ hb; have c0 := hat.row; rw [unhide HNE] at c0; have ck := hat.kind i (unhide HIL); rw [unhide HK] at ck; clear hat; have HB1 := hide hb; have HBC := hide hb; clear hb)
    | (go_at_call 72; refine (((unhide HQ).start _ (unhide HBC)).unlink i).mono ?_; rintro e w5 ⟨rfl, hu5⟩; have HU5 := hide (hu5.link p i b); clear hu5)
    | (go_at_call 73; refine (unhide HU5).mono ?_; rintro e w6 ⟨rfl, hu6⟩; have HU6 := hide hu6; clear hu6))
  go_ret
  exact ⟨rfl, (unhide HU6).after (unhide HBC)⟩

set_option maxHeartbeats 4000000 in
theorem rins_of (i : Nat) (hil : i < os.length) (p b : Int) (g cap : Nat) (hQ : RInsQ w base bR os G i p b g cap) (hbi : b ≠ (i : Int)) (hk : kindO os i = 5) :
    Calls Tryz.prog 26 #[.pointer (some ⟨bR, 0, none⟩), .int .i64 i, .int .i64 p, .int .i64 b] w fun e w' => e = .returned (.int .i64 0) ∧ URS G w w' base bR ((kidsO os i).foldl (putO p b) os) := by
  have HQ := hide hQ
  have HK := hide hk
  have HIL := hide hil
  obtain ⟨n, hne⟩ : ∃ n, os.length = n := ⟨_, rfl⟩
  have hiz : (i : Int) < (n : Int) := by omega
  have HNE := hide hne
  have hz : (b == (i : Int)) = false := by simpa using hbi
  have hfew := hQ.few
  obtain ⟨cs, hcs⟩ : ∃ cs, kidsO os i = cs := ⟨_, rfl⟩
  rw [hcs] at hfew ⊢
  have HCS := hide hcs
  clear hcs
  clear hQ hk hil hne hbi
  go_enter Tryz.func26, Tryz.ntmps26
  set_option maxRecDepth 10000 in
  go_wp2_with (first
    | (go_at_call 25; refine (unhide HQ).may.mono ?_; rintro e w1 ⟨rfl, hb⟩; have hat := (unhide HQ).nodes _ hb; have c0 := hat.row; rw [unhide HNE] at c0; have ck := hat.kind i (unhide HIL); rw [unhide HK] at ck; clear hat; have HB1 := hide hb; have HBC := hide hb; clear hb)
    | (go_at_call 71; refine ((unhide HQ).kids _ (unhide HBC)).mono ?_; rw [unhide HCS]; rintro e w3 ⟨ca, cc, rfl, hin, hnew, hb⟩; have HIN := hide hin; have HNEW := hide hnew; have HB3 := hide hb; clear hin hnew hb))
  have HST := hide ((unhide HQ).start w3 (unhide HB3))
  have HOLD := hide (unhide HQ).old
  go_loopg [13] cs.length (fun k s wx => ∃ j : Nat, s = .int .i64 j ∧ j + k = cs.length ∧ URS G w3 wx base bR ((cs.take j).foldl (putO p b) os))
  case atStart => exact ⟨0, rfl, by omega, by simpa using unhide HST⟩
  case round =>
    obtain ⟨j, rfl, hjk, hu⟩ := hrel
    by_cases hj : j < cs.length
    · have hjz : (j : Int) < (cs.length : Int) := by omega
      have hx : cs[j]? = some cs[j] := List.getElem?_eq_getElem hj
      generalize cs[j] = x at hx
      have hkeep : ∀ W, Mod G w3 W → IntsIn W ca cs := fun W hm => (unhide HIN).mod (fun b off e => hm.block b ((unhide HNEW) b off e).2 (fun hf => by have := (unhide HOLD) b hf; have := ((unhide HNEW) b off e).1; omega))
      obtain ⟨ba, off, rfl, hc⟩ := (hkeep _ hu.mod).cells j x hx
      have HX := hide hx
      have HKP := hide hkeep
      have HFT := hide (foldl_take (putO p b) os cs hx)
      have HU1 := hide (hu.unlink x)
      clear hu hx hkeep
      generalize (cs.take j).foldl (putO p b) os = os1 at *
      go_wp2_with (first
        | (go_at_call 72; refine (unhide HU1).mono ?_; rintro e w5 ⟨rfl, hu5⟩; obtain ⟨bb2, off2, ebb, hc5⟩ := ((unhide HKP) _ hu5.mod).cells j x (unhide HX); simp at ebb; obtain ⟨rfl, rfl⟩ := ebb; have HU5 := hide (hu5.link p x b); clear hu5)
        | (go_at_call 73; refine (unhide HU5).mono ?_; rintro e w6 ⟨rfl, hu6⟩; have HU6 := hide hu6; clear hu6))
      go_roundg (gk - 1)
      case measure => omega
      case rel => exact ⟨j + 1, by go_num, by omega, by rw [unhide HFT]; exact unhide HU6⟩
    · have hjz : ¬ (j : Int) < (cs.length : Int) := by omega
      obtain rfl : j = cs.length := by omega
      go_wp2
      go_ret
      exact ⟨rfl, URS.after (unhide HB3) (by simpa using hu)⟩

set_option maxHeartbeats 4000000 in
theorem rins_s1 (i : Nat) (hil : i < os.length) (p : Int) (g cap : Nat) (hQ : RInsQ w base bR os G i p (i : Int) g cap) (v : Int) (hv : nextO os i = v) (k : Int) (hk : kindO os i = k) (h5 : k ≠ 5) :
    Calls Tryz.prog 26 #[.pointer (some ⟨bR, 0, none⟩), .int .i64 i, .int .i64 p, .int .i64 (i : Int)] w fun e w' => e = .returned (.int .i64 0) ∧ URS G w w' base bR (putO p v os i) := by
  have HQ := hide hQ
  have HK := hide hk
  have HIL := hide hil
  obtain ⟨n, hne⟩ : ∃ n, os.length = n := ⟨_, rfl⟩
  have hiz : (i : Int) < (n : Int) := by omega
  have HNE := hide hne
  have HV := hide hv
  have hz : ((i : Int) == (i : Int)) = true := by simp
  have z5 : (k == 5) = false := by simpa using h5
  clear hQ hk hil hne hv
  go_enter Tryz.func26, Tryz.ntmps26
  set_option maxRecDepth 10000 in
  go_wp2_with (first
    | (go_at_call 25; refine (unhide HQ).may.mono ?_; rintro e w1 ⟨rfl, hb⟩; have HB1 := hide hb; have HBC := hide hb; clear hb)
    | (go_at_call 33; refine ((unhide HQ).node _ (unhide HB1)).mono ?_; rw [unhide HV]; rintro e w2 ⟨v0, v1, v6, v7, v8, v9, v11, v2, v4, v5, ao, nn, cp, rfl, hb⟩; have hat := (unhide HQ).nodes _ (hb.alloc hb.size (.cells #[.int .i64 v0, .int .i64 v1, .string v2, .slice ao nn cp, .string v4, .string v5, .int .i64 v6, .int .i64 v7, .int .i64 v8, .int .i64 v9, .int .i64 v, .int .i64 v11] 36)); have c0 := hat.row; rw [unhide HNE] at c0; have ck := hat.kind i (unhide HIL); rw [unhide HK] at ck; clear hat; have HBC := hide (hb.alloc hb.size (.cells #[.int .i64 v0, .int .i64 v1, .string v2, .slice ao nn cp, .string v4, .string v5, .int .i64 v6, .int .i64 v7, .int .i64 v8, .int .i64 v9, .int .i64 v, .int .i64 v11] 36)); clear hb)
    | (go_at_call 72; refine (((unhide HQ).start _ (unhide HBC)).unlink i).mono ?_; rintro e w5 ⟨rfl, hu5⟩; have HU5 := hide (hu5.link p i v); clear hu5)
    | (go_at_call 73; refine (unhide HU5).mono ?_; rintro e w6 ⟨rfl, hu6⟩; have HU6 := hide hu6; clear hu6))
  go_ret
  exact ⟨rfl, (unhide HU6).after (unhide HBC)⟩

set_option maxHeartbeats 4000000 in
theorem rins_sf (i : Nat) (hil : i < os.length) (p : Int) (g cap : Nat) (hQ : RInsQ w base bR os G i p (i : Int) g cap) (v : Int) (hv : nextO os i = v) (hk : kindO os i = 5) :
    Calls Tryz.prog 26 #[.pointer (some ⟨bR, 0, none⟩), .int .i64 i, .int .i64 p, .int .i64 (i : Int)] w fun e w' => e = .returned (.int .i64 0) ∧ URS G w w' base bR ((kidsO os i).foldl (putO p v) os) := by
  have HQ := hide hQ
  have HK := hide hk
  have HIL := hide hil
  obtain ⟨n, hne⟩ : ∃ n, os.length = n := ⟨_, rfl⟩
  have hiz : (i : Int) < (n : Int) := by omega
  have HNE := hide hne
  have HV := hide hv
  have hz : ((i : Int) == (i : Int)) = true := by simp
  have hfew := hQ.few
  obtain ⟨cs, hcs⟩ : ∃ cs, kidsO os i = cs := ⟨_, rfl⟩
  rw [hcs] at hfew ⊢
  have HCS := hide hcs
  clear hcs
  clear hQ hk hil hne hv
  go_enter Tryz.func26, Tryz.ntmps26
  set_option maxRecDepth 10000 in
  go_wp2_with (first
    | (go_at_call 25; refine (unhide HQ).may.mono ?_; rintro e w1 ⟨rfl, hb⟩; have HB1 := hide hb; have HBC := hide hb; clear hb)
    | (go_at_call 33; refine ((unhide HQ).node _ (unhide HB1)).mono ?_; rw [unhide HV]; rintro e w2 ⟨v0, v1, v6, v7, v8, v9, v11, v2, v4, v5, ao, nn, cp, rfl, hb⟩; have hat := (unhide HQ).nodes _ (hb.alloc hb.size (.cells #[.int .i64 v0, .int .i64 v1, .string v2, .slice ao nn cp, .string v4, .string v5, .int .i64 v6, .int .i64 v7, .int .i64 v8, .int .i64 v9, .int .i64 v, .int .i64 v11] 36)); have c0 := hat.row; rw [unhide HNE] at c0; have ck := hat.kind i (unhide HIL); rw [unhide HK] at ck; clear hat; have HBC := hide (hb.alloc hb.size (.cells #[.int .i64 v0, .int .i64 v1, .string v2, .slice ao nn cp, .string v4, .string v5, .int .i64 v6, .int .i64 v7, .int .i64 v8, .int .i64 v9, .int .i64 v, .int .i64 v11] 36)); clear hb)
    | (go_at_call 71; refine ((unhide HQ).kids _ (unhide HBC)).mono ?_; rw [unhide HCS]; rintro e w3 ⟨ca, cc, rfl, hin, hnew, hb⟩; have HIN := hide hin; have HNEW := hide hnew; have HB3 := hide hb; clear hin hnew hb))
  have HST := hide ((unhide HQ).start w3 (unhide HB3))
  have HOLD := hide (unhide HQ).old
  go_loopg [13] cs.length (fun k s wx => ∃ j : Nat, s = .int .i64 j ∧ j + k = cs.length ∧ URS G w3 wx base bR ((cs.take j).foldl (putO p v) os))
  case atStart => exact ⟨0, rfl, by omega, by simpa using unhide HST⟩
  case round =>
    obtain ⟨j, rfl, hjk, hu⟩ := hrel
    by_cases hj : j < cs.length
    · have hjz : (j : Int) < (cs.length : Int) := by omega
      have hx : cs[j]? = some cs[j] := List.getElem?_eq_getElem hj
      generalize cs[j] = x at hx
      have hkeep : ∀ W, Mod G w3 W → IntsIn W ca cs := fun W hm => (unhide HIN).mod (fun b off e => hm.block b ((unhide HNEW) b off e).2 (fun hf => by have := (unhide HOLD) b hf; have := ((unhide HNEW) b off e).1; omega))
      obtain ⟨ba, off, rfl, hc⟩ := (hkeep _ hu.mod).cells j x hx
      have HX := hide hx
      have HKP := hide hkeep
      have HFT := hide (foldl_take (putO p v) os cs hx)
      have HU1 := hide (hu.unlink x)
      clear hu hx hkeep
      generalize (cs.take j).foldl (putO p v) os = os1 at *
      go_wp2_with (first
        | (go_at_call 72; refine (unhide HU1).mono ?_; rintro e w5 ⟨rfl, hu5⟩; obtain ⟨bb2, off2, ebb, hc5⟩ := ((unhide HKP) _ hu5.mod).cells j x (unhide HX); simp at ebb; obtain ⟨rfl, rfl⟩ := ebb; have HU5 := hide (hu5.link p x v); clear hu5)
        | (go_at_call 73; refine (unhide HU5).mono ?_; rintro e w6 ⟨rfl, hu6⟩; have HU6 := hide hu6; clear hu6))
      go_roundg (gk - 1)
      case measure => omega
      case rel => exact ⟨j + 1, by go_num, by omega, by rw [unhide HFT]; exact unhide HU6⟩
    · have hjz : ¬ (j : Int) < (cs.length : Int) := by omega
      obtain rfl : j = cs.length := by omega
      go_wp2
      go_ret
      exact ⟨rfl, URS.after (unhide HB3) (by simpa using hu)⟩

theorem refInsert_any (hS : RfS w base bR os G) (hs : Sim ns os) (h00 : K0 os) (id p b : Int) :
    Calls Tryz.prog 26 #[.pointer (some ⟨bR, 0, none⟩), .int .i64 id, .int .i64 p, .int .i64 b] w fun e w' => e = .returned (.int .i64 (mayE os id p b)) ∧ URS G w w' base bR (insR os id p b) := by
  unfold insR
  by_cases hm : mayE os id p b = 0
  · rw [if_pos hm, hm]
    obtain ⟨i, o, rfl, ho⟩ := hasO_yes (mayE_has hm)
    have hil := (List.getElem?_eq_some_iff.1 ho).1
    obtain ⟨g, cap, hQ⟩ := rinsQ hS hs h00 i hil p b hm
    unfold insB comersO
    by_cases e : b = (i : Int)
    · rw [if_pos e]
      subst e
      by_cases h5 : kindO os i = 5
      · rw [if_pos h5]; exact rins_sf i hil p g cap hQ _ rfl h5
      · rw [if_neg h5]; exact rins_s1 i hil p g cap hQ _ rfl _ rfl h5
    · rw [if_neg e]
      by_cases h5 : kindO os i = 5
      · rw [if_pos h5]; exact rins_of i hil p b g cap hQ e h5
      · rw [if_neg h5]; exact rins_o1 i hil p b g cap hQ e _ rfl h5
  · rw [if_neg hm]
    exact rins_no hS hs h00 id p b hm
end
end Go.Proofs.YtnclnijlpchdnaaGreat

namespace Go.Proofs.YtnclnijlpchdnaaGreat
open Go.RowKit

theorem simO_text {ns : List NodeM} {os : List OneM} (hs : Sim ns os) (s : ByteArray) : ∃ ms, Sim ms (dataO os 2 s).1 := by
  unfold dataO addO
  split
  · exact ⟨ns, hs⟩
  · split
    · exact ⟨_, hs.add1 { blankM 2 with data := s } _ ⟨rfl, rfl, rfl, rfl, rfl, rfl, rfl, rfl⟩ ⟨rfl, rfl, rfl, rfl, rfl⟩ rfl rfl rfl⟩
    · exact ⟨ns, hs⟩
theorem simO_elem {ns : List NodeM} {os : List OneM} (hs : Sim ns os) (s : ByteArray) : ∃ ms, Sim ms (elemO os 0 s []).1 := by
  have hl := hs.len
  unfold elemO addO
  split
  · exact ⟨ns, hs⟩
  · split
    · exact ⟨ns, hs⟩
    · split
      · split
        · exact ⟨_, hs.add2 { blankM 1 with name := s, inner := (os.length : Int) + 1 } (blankM 5) _ _ ⟨rfl, rfl, rfl, rfl, rfl, rfl, rfl, rfl⟩ ⟨rfl, rfl, rfl, rfl, rfl, rfl, rfl, rfl⟩ ⟨rfl, rfl, rfl, rfl, rfl⟩ ⟨rfl, rfl, rfl, rfl, rfl⟩ rfl rfl (by simp) rfl rfl (by simp) rfl⟩
        · exact ⟨ns, hs⟩
      · split
        · exact ⟨_, hs.add1 { blankM 1 with name := s } _ ⟨rfl, rfl, rfl, rfl, rfl, rfl, rfl, rfl⟩ ⟨rfl, rfl, rfl, rfl, rfl⟩ rfl rfl rfl⟩
        · exact ⟨ns, hs⟩

/-- What the document's calls that name a node ask. -/
structure RAskN (w : World) (bR : Nat) (os : List OneM) (q : Nat) (g cap : Nat) (n : Int) (m : Nat) (a : Option Addr) (cp : Nat) : Prop where
  is : Calls Tryz.prog 67 #[.pointer (some ⟨bR, 0, none⟩), .int .i64 q] w fun e w' => e = .returned (.bool true) ∧ w = w'
  par : Calls Tryz.prog 68 #[.pointer (some ⟨bR, 0, none⟩), .int .i64 q] w fun e w' => e = .returned (.bool (parentM (kindO os q))) ∧ w = w'
  all : ∀ W, Below w.heap.size w W → Calls Tryz.prog 75 #[.pointer (some ⟨bR, 0, none⟩), .int .i64 1, .int .i64 0, .int .i64 m] W fun e w' => e = .returned (.bool (someO os 1 (kidsO os 0))) ∧ Below w.heap.size w w'
  c0 : ∀ W, Below w.heap.size w W → ∃ nn : Nat, (nn : Int) = n ∧ W.cell? ⟨bR, 0, none⟩ = some (.slice (some ⟨g, 0, none⟩) nn cap)
  c9 : ∀ W, Below w.heap.size w W → W.cell? ⟨g, 9, none⟩ = some (.slice a m cp)
  ck : ∀ W, Below w.heap.size w W → W.cell? ⟨g, q * 10, none⟩ = some (.int .i64 (kindO os q))
  cs : ∀ W, Below w.heap.size w W → W.cell? ⟨g, q * 10 + 1, none⟩ = some (.int .i64 (spaceO os q))
  hq : (q : Int) < n
  hm : m ≤ 32768

section
variable {w W W' : World} {base bR : Nat} {os : List OneM} {G : Nat → Prop} {ns : List NodeM}
theorem raskN (hS : RfS w base bR os G) (hs : Sim ns os) (q : Nat) (hq : q < os.length) : ∃ g cap m a cp, RAskN w bR os q g cap os.length m a cp := by
  obtain ⟨g, cap, hN⟩ := nodesAt hS
  have hQ := rulesQ hS hs (-1)
  have hn := hN w (Below.refl _ _)
  obtain ⟨a, cp, c9⟩ := zeroth hn
  have hbk : ∀ W, Below w.heap.size w W → W.cell? ⟨g, 9, none⟩ = some (.slice a (kidsO os 0).length cp) := fun W hW => by
    have hg : g < w.heap.size := by
      cases hh : w.heap[g]? with
      | none => simp [World.cell?, hh] at c9
      | some o => exact lt_of_block hh
    rw [hW.cell hg]; exact c9
  refine ⟨g, cap, (kidsO os 0).length, a, cp, ?_, ?_, fun W hW => hQ.all W 1 hW, fun W hW => ⟨os.length, rfl, (hN W hW).row⟩, hbk, fun W hW => (hN W hW).kind q hq, fun W hW => (hN W hW).space q hq, by omega, hQ.few⟩
  · obtain ⟨g', cap', rs, h, rfl, _⟩ := hS
    have := refIs_any h q
    rw [show hasO (osOf rs) (q : Int) = true from decide_eq_true (by omega)] at this
    exact this
  · obtain ⟨g', cap', rs, h, rfl, _⟩ := hS
    have hl := osOf_len rs
    have hr : rs[q]? = some rs[q] := List.getElem?_eq_getElem (by omega)
    rw [kindO_of (osOf_get hr)]
    exact refParent_any h q _ hr
theorem ris_no (hS : RfS w base bR os G) (p : Int) (hno : hasO os p = false) : Calls Tryz.prog 67 #[.pointer (some ⟨bR, 0, none⟩), .int .i64 p] w fun e w' => e = .returned (.bool false) ∧ w = w' := by
  obtain ⟨g', cap', rs, h, rfl, _⟩ := hS
  have := refIs_any h p
  rw [hno] at this
  exact this
theorem rAddText_none (hS : RfS w base bR os G) (s : ByteArray) (p : Int) (hno : hasO os p = false) :
    Calls Tryz.prog 28 #[.pointer (some ⟨bR, 0, none⟩), .string s, .int .i64 p] w fun e w' => e = .returned (.tuple #[.int .i64 0, .int .i64 6]) ∧ Below w.heap.size w w' := by
  have HF := hide (ris_no hS p hno)
  clear hS hno
  go_enter Tryz.func28, Tryz.ntmps28
  go_wp2_with (first | (go_at_call 67; refine (unhide HF).mono ?_; rintro e w1 ⟨rfl, rfl⟩))
  go_ret2
  exact ⟨rfl, Below.refl _ _⟩
theorem rAddElement_none (hS : RfS w base bR os G) (s : ByteArray) (p : Int) (hno : hasO os p = false) :
    Calls Tryz.prog 29 #[.pointer (some ⟨bR, 0, none⟩), .string s, .int .i64 p] w fun e w' => e = .returned (.tuple #[.int .i64 0, .int .i64 6]) ∧ Below w.heap.size w w' := by
  have HF := hide (ris_no hS p hno)
  clear hS hno
  go_enter Tryz.func29, Tryz.ntmps29
  go_wp2_with (first | (go_at_call 67; refine (unhide HF).mono ?_; rintro e w1 ⟨rfl, rfl⟩))
  go_ret2
  exact ⟨rfl, Below.refl _ _⟩
theorem rattr_none (hS : RfS w base bR os G) (s : ByteArray) (p : Int) (hno : hasO os p = false) :
    Calls Tryz.prog 77 #[.pointer (some ⟨bR, 0, none⟩), .int .i64 p, .string s] w fun e w' => e = .returned (.tuple #[.string ⟨#[]⟩, .int .i64 6]) ∧ Below w.heap.size w w' := by
  have HF := hide (ris_no hS p hno)
  clear hS hno
  go_enter Tryz.func77, Tryz.ntmps77
  go_wp2_with (first | (go_at_call 67; refine (unhide HF).mono ?_; rintro e w1 ⟨rfl, rfl⟩))
  go_ret2
  exact ⟨rfl, Below.refl _ _⟩
end

section
variable {w : World} {bR : Nat} {os : List OneM} {q g cap : Nat} {n : Int} {m : Nat} {a : Option Addr} {cp : Nat}

set_option maxHeartbeats 2000000 in
theorem rt_long (hQ : RAskN w bR os q g cap n m a cp) (s : ByteArray) (h1 : (1048576 : Int) < (s.size : Int)) :
    Calls Tryz.prog 28 #[.pointer (some ⟨bR, 0, none⟩), .string s, .int .i64 q] w fun e w' => e = .returned (.tuple #[.int .i64 0, .int .i64 2]) ∧ Below w.heap.size w w' := by
  have HQ := hide hQ
  clear hQ
  go_enter Tryz.func28, Tryz.ntmps28
  go_wp2_with (first
    | (go_at_call 67; refine (unhide HQ).is.mono ?_; rintro e w1 ⟨rfl, rfl⟩))
  go_ret2
  exact ⟨rfl, Below.refl _ _⟩

set_option maxHeartbeats 2000000 in
theorem rt_full (hQ : RAskN w bR os q g cap n m a cp) (s : ByteArray) (h1 : ¬ (1048576 : Int) < (s.size : Int)) (h2 : (32768 : Int) ≤ n) :
    Calls Tryz.prog 28 #[.pointer (some ⟨bR, 0, none⟩), .string s, .int .i64 q] w fun e w' => e = .returned (.tuple #[.int .i64 0, .int .i64 9]) ∧ Below w.heap.size w w' := by
  have HQ := hide hQ
  obtain ⟨nn, hnn, c0⟩ := hQ.c0 w (Below.refl _ _)
  subst hnn
  clear hQ
  go_enter Tryz.func28, Tryz.ntmps28
  go_wp2_with (first
    | (go_at_call 67; refine (unhide HQ).is.mono ?_; rintro e w1 ⟨rfl, rfl⟩))
  go_ret2
  exact ⟨rfl, Below.refl _ _⟩

set_option maxHeartbeats 2000000 in
theorem rt_par (hQ : RAskN w bR os q g cap n m a cp) (s : ByteArray) (h1 : ¬ (1048576 : Int) < (s.size : Int)) (h2 : ¬ (32768 : Int) ≤ n) (hp : parentM (kindO os q) = false) :
    Calls Tryz.prog 28 #[.pointer (some ⟨bR, 0, none⟩), .string s, .int .i64 q] w fun e w' => e = .returned (.tuple #[.int .i64 0, .int .i64 20]) ∧ Below w.heap.size w w' := by
  have HQ := hide hQ
  obtain ⟨nn, hnn, c0⟩ := hQ.c0 w (Below.refl _ _)
  subst hnn
  have hdec : decide ((32768 : Int) ≤ (nn : Int)) = false := decide_eq_false h2
  have HPAR := hide hQ.par
  rw [hp] at HPAR
  clear hQ hp h2
  go_enter Tryz.func28, Tryz.ntmps28
  go_wp2_with (first
    | (go_at_call 67; refine (unhide HQ).is.mono ?_; rintro e w1 ⟨rfl, rfl⟩)
    | (go_at_call 68; refine (unhide HPAR).mono ?_; rintro e w1 ⟨rfl, rfl⟩))
  go_ret2
  exact ⟨rfl, Below.refl _ _⟩

set_option maxHeartbeats 2000000 in
theorem rt_doc (hQ : RAskN w bR os q g cap n m a cp) (s : ByteArray) (h1 : ¬ (1048576 : Int) < (s.size : Int)) (h2 : ¬ (32768 : Int) ≤ n) (hp : parentM (kindO os q) = true) (hq0 : q = 0) :
    Calls Tryz.prog 28 #[.pointer (some ⟨bR, 0, none⟩), .string s, .int .i64 q] w fun e w' => e = .returned (.tuple #[.int .i64 0, .int .i64 20]) ∧ Below w.heap.size w w' := by
  have HQ := hide hQ
  obtain ⟨nn, hnn, c0⟩ := hQ.c0 w (Below.refl _ _)
  subst hnn
  have hdec : decide ((32768 : Int) ≤ (nn : Int)) = false := decide_eq_false h2
  have HPAR := hide hQ.par
  rw [hp] at HPAR
  subst hq0
  clear hQ hp h2
  go_enter Tryz.func28, Tryz.ntmps28
  go_wp2_with (first
    | (go_at_call 67; refine (unhide HQ).is.mono ?_; rintro e w1 ⟨rfl, rfl⟩)
    | (go_at_call 68; refine (unhide HPAR).mono ?_; rintro e w1 ⟨rfl, rfl⟩))
  go_ret2
  exact ⟨rfl, Below.refl _ _⟩

set_option maxHeartbeats 2000000 in
theorem rt_ok {w0 : World} {base : Nat} {G : Nat → Prop} {os1 : List OneM} (hQ : RAskN w bR os q g cap n m a cp) (s : ByteArray) (h1 : ¬ (1048576 : Int) < (s.size : Int)) (h2 : ¬ (32768 : Int) ≤ n) (hp : parentM (kindO os q) = true) (hq0 : q ≠ 0)
    (hT : Calls Tryz.prog 57 #[.pointer (some ⟨bR, 0, none⟩), .string s] w fun e w6 => e = .returned (.tuple #[.int .i64 n, .int .i64 0]) ∧ Calls Tryz.prog 73 #[.pointer (some ⟨bR, 0, none⟩), .int .i64 q, .int .i64 n, .int .i64 (-1)] w6 fun e w' => e = .returned (.int .i64 0) ∧ URS G w0 w' base bR os1) :
    Calls Tryz.prog 28 #[.pointer (some ⟨bR, 0, none⟩), .string s, .int .i64 q] w fun e w' => e = .returned (.tuple #[.int .i64 n, .int .i64 0]) ∧ URS G w0 w' base bR os1 := by
  have HQ := hide hQ
  obtain ⟨nn, hnn, c0⟩ := hQ.c0 w (Below.refl _ _)
  subst hnn
  have HPAR := hide hQ.par
  rw [hp] at HPAR
  have x0 : ((q : Int) == 0) = false := by simpa using hq0
  have x0' : ¬ (q : Int) = 0 := by omega
  have HT := hide hT
  have hdec : decide ((32768 : Int) ≤ (nn : Int)) = false := decide_eq_false h2
  clear hQ hp hT h2
  go_enter Tryz.func28, Tryz.ntmps28
  go_wp2_with (first
    | (go_at_call 67; refine (unhide HQ).is.mono ?_; rintro e w1 ⟨rfl, rfl⟩)
    | (go_at_call 68; refine (unhide HPAR).mono ?_; rintro e w1 ⟨rfl, rfl⟩)
    | (go_at_call 57; refine (unhide HT).mono ?_; rintro e w6 ⟨rfl, H6'⟩; have H6 := hide H6'; clear H6')
    | (go_at_call 73; refine (unhide H6).mono ?_; rintro e w7 ⟨rfl, hu7⟩; have HU7 := hide hu7; clear hu7))
  go_ret2
  exact ⟨rfl, unhide HU7⟩

set_option maxHeartbeats 2000000 in
theorem re_tag (hQ : RAskN w bR os q g cap n m a cp) (s : ByteArray) (hg : ∀ W, Calls Tryz.prog 74 #[.string s] W fun e w' => e = .returned (.bool false) ∧ Below W.heap.size W w') :
    Calls Tryz.prog 29 #[.pointer (some ⟨bR, 0, none⟩), .string s, .int .i64 q] w fun e w' => e = .returned (.tuple #[.int .i64 0, .int .i64 22]) ∧ Below w.heap.size w w' := by
  have HQ := hide hQ
  have HTG := hide hg
  clear hQ hg
  go_enter Tryz.func29, Tryz.ntmps29
  go_wp2_with (first
    | (go_at_call 67; refine (unhide HQ).is.mono ?_; rintro e w1 ⟨rfl, rfl⟩)
    | (go_at_call 74; refine ((unhide HTG) _).mono ?_; rintro e w2 ⟨rfl, hb⟩; have HBC := hide hb; clear hb))
  go_ret2
  exact ⟨rfl, unhide HBC⟩

set_option maxHeartbeats 2000000 in
theorem re_par (hQ : RAskN w bR os q g cap n m a cp) (s : ByteArray) (hg : ∀ W, Calls Tryz.prog 74 #[.string s] W fun e w' => e = .returned (.bool true) ∧ Below W.heap.size W w') (hpw : ∀ W, Below w.heap.size w W → Calls Tryz.prog 68 #[.pointer (some ⟨bR, 0, none⟩), .int .i64 q] W fun e w' => e = .returned (.bool false) ∧ W = w') :
    Calls Tryz.prog 29 #[.pointer (some ⟨bR, 0, none⟩), .string s, .int .i64 q] w fun e w' => e = .returned (.tuple #[.int .i64 0, .int .i64 20]) ∧ Below w.heap.size w w' := by
  have HQ := hide hQ
  have HTG := hide hg
  have HPW := hide hpw
  clear hQ hg hpw
  go_enter Tryz.func29, Tryz.ntmps29
  go_wp2_with (first
    | (go_at_call 67; refine (unhide HQ).is.mono ?_; rintro e w1 ⟨rfl, rfl⟩)
    | (go_at_call 74; refine ((unhide HTG) _).mono ?_; rintro e w2 ⟨rfl, hb⟩; have HBC := hide hb; clear hb)
    | (go_at_call 68; refine ((unhide HPW) _ (unhide HBC)).mono ?_; rintro e w1 ⟨rfl, rfl⟩))
  go_ret2
  exact ⟨rfl, unhide HBC⟩

set_option maxHeartbeats 2000000 in
theorem re_two (hQ : RAskN w bR os q g cap n m a cp) (s : ByteArray) (hg : ∀ W, Calls Tryz.prog 74 #[.string s] W fun e w' => e = .returned (.bool true) ∧ Below W.heap.size W w') (hpw : ∀ W, Below w.heap.size w W → Calls Tryz.prog 68 #[.pointer (some ⟨bR, 0, none⟩), .int .i64 q] W fun e w' => e = .returned (.bool true) ∧ W = w') (hq0 : q = 0) (hsm : someO os 1 (kidsO os 0) = true) :
    Calls Tryz.prog 29 #[.pointer (some ⟨bR, 0, none⟩), .string s, .int .i64 q] w fun e w' => e = .returned (.tuple #[.int .i64 0, .int .i64 20]) ∧ Below w.heap.size w w' := by
  have HQ := hide hQ
  have HTG := hide hg
  have HPW := hide hpw
  have HSM := hide hsm
  have hmz := hQ.hm
  subst hq0
  clear hQ hg hpw hsm
  go_enter Tryz.func29, Tryz.ntmps29
  go_wp2_with (first
    | (go_at_call 67; refine (unhide HQ).is.mono ?_; rintro e w1 ⟨rfl, rfl⟩)
    | (go_at_call 74; refine ((unhide HTG) _).mono ?_; rintro e w2 ⟨rfl, hb⟩; obtain ⟨nn, hnn, c0⟩ := (unhide HQ).c0 _ hb; have hqz := (unhide HQ).hq; rw [← hnn] at hqz; have c9 := (unhide HQ).c9 _ hb; clear hnn; have HBC := hide hb; clear hb)
    | (go_at_call 68; refine ((unhide HPW) _ (unhide HBC)).mono ?_; rintro e w1 ⟨rfl, rfl⟩)
    | (go_at_call 75; refine ((unhide HQ).all _ (unhide HBC)).mono ?_; rw [unhide HSM]; rintro e w4 ⟨rfl, hb⟩; have HBC := hide hb; clear hb))
  go_ret2
  exact ⟨rfl, unhide HBC⟩

set_option maxHeartbeats 2000000 in
theorem re_full0 {w0 : World} {base : Nat} {G : Nat → Prop} {os1 : List OneM} (hQ : RAskN w bR os q g cap n m a cp) (s : ByteArray) (hg : ∀ W, Calls Tryz.prog 74 #[.string s] W fun e w' => e = .returned (.bool true) ∧ Below W.heap.size W w') (hpw : ∀ W, Below w.heap.size w W → Calls Tryz.prog 68 #[.pointer (some ⟨bR, 0, none⟩), .int .i64 q] W fun e w' => e = .returned (.bool true) ∧ W = w') (hq0 : q = 0) (hsm : someO os 1 (kidsO os 0) = false) (h100 : s.size ≤ 100)
    (hE : ∀ W, Below w.heap.size w W → Calls Tryz.prog 56 #[.pointer (some ⟨bR, 0, none⟩), .int .i64 0, .string (lowS s), .slice none 0 0] W fun e w6 => e = .returned (.tuple #[.int .i64 0, .int .i64 9]) ∧ URS G w0 w6 base bR os1) :
    Calls Tryz.prog 29 #[.pointer (some ⟨bR, 0, none⟩), .string s, .int .i64 q] w fun e w' => e = .returned (.tuple #[.int .i64 0, .int .i64 9]) ∧ URS G w0 w' base bR os1 := by
  have HQ := hide hQ
  have HTG := hide hg
  have HPW := hide hpw
  have HEL := hide hE
  have H100 := hide h100
  have HSM := hide hsm
  have hmz := hQ.hm
  subst hq0
  clear hQ hg hpw hE h100 hsm
  go_enter Tryz.func29, Tryz.ntmps29
  go_wp2_with (first
    | (go_at_call 67; refine (unhide HQ).is.mono ?_; rintro e w1 ⟨rfl, rfl⟩)
    | (go_at_call 74; refine ((unhide HTG) _).mono ?_; rintro e w2 ⟨rfl, hb⟩; obtain ⟨nn, hnn, c0⟩ := (unhide HQ).c0 _ hb; have hqz := (unhide HQ).hq; rw [← hnn] at hqz; have c9 := (unhide HQ).c9 _ hb; clear hnn; have HBC := hide hb; clear hb)
    | (go_at_call 68; refine ((unhide HPW) _ (unhide HBC)).mono ?_; rintro e w1 ⟨rfl, rfl⟩)
    | (go_at_call 75; refine ((unhide HQ).all _ (unhide HBC)).mono ?_; rw [unhide HSM]; rintro e w4 ⟨rfl, hb⟩; have HBC := hide hb; clear hb)
    | (go_at_call 76; refine (refSmall_any s _ (unhide H100)).mono ?_; rintro e w5 ⟨rfl, hb⟩; have HBC := hide ((unhide HBC).trans (hb.mono (unhide HBC).size)); clear hb)
    | (go_at_call 56; refine ((unhide HEL) _ (unhide HBC)).mono ?_; rintro e w6 ⟨rfl, H6'⟩; have H6 := hide H6'; clear H6'))
  go_ret2
  exact ⟨rfl, unhide H6⟩

set_option maxHeartbeats 2000000 in
theorem re_ok0 {w0 : World} {base : Nat} {G : Nat → Prop} {os1 : List OneM} (hQ : RAskN w bR os q g cap n m a cp) (s : ByteArray) (hg : ∀ W, Calls Tryz.prog 74 #[.string s] W fun e w' => e = .returned (.bool true) ∧ Below W.heap.size W w') (hpw : ∀ W, Below w.heap.size w W → Calls Tryz.prog 68 #[.pointer (some ⟨bR, 0, none⟩), .int .i64 q] W fun e w' => e = .returned (.bool true) ∧ W = w') (hq0 : q = 0) (hsm : someO os 1 (kidsO os 0) = false) (h100 : s.size ≤ 100) (k : Int)
    (hE : ∀ W, Below w.heap.size w W → Calls Tryz.prog 56 #[.pointer (some ⟨bR, 0, none⟩), .int .i64 0, .string (lowS s), .slice none 0 0] W fun e w6 => e = .returned (.tuple #[.int .i64 k, .int .i64 0]) ∧ Calls Tryz.prog 73 #[.pointer (some ⟨bR, 0, none⟩), .int .i64 q, .int .i64 k, .int .i64 (-1)] w6 fun e w' => e = .returned (.int .i64 0) ∧ URS G w0 w' base bR os1) :
    Calls Tryz.prog 29 #[.pointer (some ⟨bR, 0, none⟩), .string s, .int .i64 q] w fun e w' => e = .returned (.tuple #[.int .i64 k, .int .i64 0]) ∧ URS G w0 w' base bR os1 := by
  have HQ := hide hQ
  have HTG := hide hg
  have HPW := hide hpw
  have HEL := hide hE
  have H100 := hide h100
  have HSM := hide hsm
  have hmz := hQ.hm
  subst hq0
  clear hQ hg hpw hE h100 hsm
  go_enter Tryz.func29, Tryz.ntmps29
  go_wp2_with (first
    | (go_at_call 67; refine (unhide HQ).is.mono ?_; rintro e w1 ⟨rfl, rfl⟩)
    | (go_at_call 74; refine ((unhide HTG) _).mono ?_; rintro e w2 ⟨rfl, hb⟩; obtain ⟨nn, hnn, c0⟩ := (unhide HQ).c0 _ hb; have hqz := (unhide HQ).hq; rw [← hnn] at hqz; have c9 := (unhide HQ).c9 _ hb; clear hnn; have HBC := hide hb; clear hb)
    | (go_at_call 68; refine ((unhide HPW) _ (unhide HBC)).mono ?_; rintro e w1 ⟨rfl, rfl⟩)
    | (go_at_call 75; refine ((unhide HQ).all _ (unhide HBC)).mono ?_; rw [unhide HSM]; rintro e w4 ⟨rfl, hb⟩; have HBC := hide hb; clear hb)
    | (go_at_call 76; refine (refSmall_any s _ (unhide H100)).mono ?_; rintro e w5 ⟨rfl, hb⟩; have HBC := hide ((unhide HBC).trans (hb.mono (unhide HBC).size)); clear hb)
    | (go_at_call 56; refine ((unhide HEL) _ (unhide HBC)).mono ?_; rintro e w6 ⟨rfl, H6'⟩; have H6 := hide H6'; clear H6')
    | (go_at_call 73; refine (unhide H6).mono ?_; rintro e w7 ⟨rfl, hu7⟩; have HU7 := hide hu7; clear hu7))
  go_ret2
  exact ⟨rfl, unhide HU7⟩

set_option maxHeartbeats 2000000 in
theorem re_full1 {w0 : World} {base : Nat} {G : Nat → Prop} {os1 : List OneM} (hQ : RAskN w bR os q g cap n m a cp) (s : ByteArray) (hg : ∀ W, Calls Tryz.prog 74 #[.string s] W fun e w' => e = .returned (.bool true) ∧ Below W.heap.size W w') (hpw : ∀ W, Below w.heap.size w W → Calls Tryz.prog 68 #[.pointer (some ⟨bR, 0, none⟩), .int .i64 q] W fun e w' => e = .returned (.bool true) ∧ W = w') (hq0 : q ≠ 0) (h100 : s.size ≤ 100)
    (hE : ∀ W, Below w.heap.size w W → Calls Tryz.prog 56 #[.pointer (some ⟨bR, 0, none⟩), .int .i64 0, .string (lowS s), .slice none 0 0] W fun e w6 => e = .returned (.tuple #[.int .i64 0, .int .i64 9]) ∧ URS G w0 w6 base bR os1) :
    Calls Tryz.prog 29 #[.pointer (some ⟨bR, 0, none⟩), .string s, .int .i64 q] w fun e w' => e = .returned (.tuple #[.int .i64 0, .int .i64 9]) ∧ URS G w0 w' base bR os1 := by
  have HQ := hide hQ
  have HTG := hide hg
  have HPW := hide hpw
  have HEL := hide hE
  have H100 := hide h100
  have x0 : ((q : Int) == 0) = false := by simpa using hq0
  have x0' : ¬ (q : Int) = 0 := by omega
  clear hQ hg hpw hE h100
  go_enter Tryz.func29, Tryz.ntmps29
  go_wp2_with (first
    | (go_at_call 67; refine (unhide HQ).is.mono ?_; rintro e w1 ⟨rfl, rfl⟩)
    | (go_at_call 74; refine ((unhide HTG) _).mono ?_; rintro e w2 ⟨rfl, hb⟩; have HBC := hide hb; clear hb)
    | (go_at_call 68; refine ((unhide HPW) _ (unhide HBC)).mono ?_; rintro e w1 ⟨rfl, rfl⟩)
    | (go_at_call 76; refine (refSmall_any s _ (unhide H100)).mono ?_; rintro e w5 ⟨rfl, hb⟩; have HBC := hide ((unhide HBC).trans (hb.mono (unhide HBC).size)); clear hb)
    | (go_at_call 56; refine ((unhide HEL) _ (unhide HBC)).mono ?_; rintro e w6 ⟨rfl, H6'⟩; have H6 := hide H6'; clear H6'))
  go_ret2
  exact ⟨rfl, unhide H6⟩

set_option maxHeartbeats 2000000 in
theorem re_ok1 {w0 : World} {base : Nat} {G : Nat → Prop} {os1 : List OneM} (hQ : RAskN w bR os q g cap n m a cp) (s : ByteArray) (hg : ∀ W, Calls Tryz.prog 74 #[.string s] W fun e w' => e = .returned (.bool true) ∧ Below W.heap.size W w') (hpw : ∀ W, Below w.heap.size w W → Calls Tryz.prog 68 #[.pointer (some ⟨bR, 0, none⟩), .int .i64 q] W fun e w' => e = .returned (.bool true) ∧ W = w') (hq0 : q ≠ 0) (h100 : s.size ≤ 100) (k : Int)
    (hE : ∀ W, Below w.heap.size w W → Calls Tryz.prog 56 #[.pointer (some ⟨bR, 0, none⟩), .int .i64 0, .string (lowS s), .slice none 0 0] W fun e w6 => e = .returned (.tuple #[.int .i64 k, .int .i64 0]) ∧ Calls Tryz.prog 73 #[.pointer (some ⟨bR, 0, none⟩), .int .i64 q, .int .i64 k, .int .i64 (-1)] w6 fun e w' => e = .returned (.int .i64 0) ∧ URS G w0 w' base bR os1) :
    Calls Tryz.prog 29 #[.pointer (some ⟨bR, 0, none⟩), .string s, .int .i64 q] w fun e w' => e = .returned (.tuple #[.int .i64 k, .int .i64 0]) ∧ URS G w0 w' base bR os1 := by
  have HQ := hide hQ
  have HTG := hide hg
  have HPW := hide hpw
  have HEL := hide hE
  have H100 := hide h100
  have x0 : ((q : Int) == 0) = false := by simpa using hq0
  have x0' : ¬ (q : Int) = 0 := by omega
  clear hQ hg hpw hE h100
  go_enter Tryz.func29, Tryz.ntmps29
  go_wp2_with (first
    | (go_at_call 67; refine (unhide HQ).is.mono ?_; rintro e w1 ⟨rfl, rfl⟩)
    | (go_at_call 74; refine ((unhide HTG) _).mono ?_; rintro e w2 ⟨rfl, hb⟩; have HBC := hide hb; clear hb)
    | (go_at_call 68; refine ((unhide HPW) _ (unhide HBC)).mono ?_; rintro e w1 ⟨rfl, rfl⟩)
    | (go_at_call 76; refine (refSmall_any s _ (unhide H100)).mono ?_; rintro e w5 ⟨rfl, hb⟩; have HBC := hide ((unhide HBC).trans (hb.mono (unhide HBC).size)); clear hb)
    | (go_at_call 56; refine ((unhide HEL) _ (unhide HBC)).mono ?_; rintro e w6 ⟨rfl, H6'⟩; have H6 := hide H6'; clear H6')
    | (go_at_call 73; refine (unhide H6).mono ?_; rintro e w7 ⟨rfl, hu7⟩; have HU7 := hide hu7; clear hu7))
  go_ret2
  exact ⟨rfl, unhide HU7⟩

set_option maxHeartbeats 2000000 in
theorem ra_kind (hQ : RAskN w bR os q g cap n m a cp) (s : ByteArray) (k : Int) (hk : kindO os q = k) (h1 : k ≠ 1) :
    Calls Tryz.prog 77 #[.pointer (some ⟨bR, 0, none⟩), .int .i64 q, .string s] w fun e w' => e = .returned (.tuple #[.string ⟨#[]⟩, .int .i64 10]) ∧ Below w.heap.size w w' := by
  have HQ := hide hQ
  obtain ⟨nn, hnn, c0⟩ := hQ.c0 w (Below.refl _ _)
  have hqz := hQ.hq
  rw [← hnn] at hqz
  have ck := hQ.ck w (Below.refl _ _)
  have cs := hQ.cs w (Below.refl _ _)
  rw [hk] at ck
  have z : (k != 1) = true := by simpa using h1
  clear hQ hnn hk
  go_enter Tryz.func77, Tryz.ntmps77
  go_wp2_with (first
    | (go_at_call 67; refine (unhide HQ).is.mono ?_; rintro e w1 ⟨rfl, rfl⟩))
  go_ret2
  exact ⟨rfl, Below.refl _ _⟩

set_option maxHeartbeats 2000000 in
theorem ra_name (hQ : RAskN w bR os q g cap n m a cp) (s : ByteArray) (hm : s.size ≤ maxLen) (hk : kindO os q = 1) (hn : nameM s = false) :
    Calls Tryz.prog 77 #[.pointer (some ⟨bR, 0, none⟩), .int .i64 q, .string s] w fun e w' => e = .returned (.tuple #[.string ⟨#[]⟩, .int .i64 22]) ∧ Below w.heap.size w w' := by
  have HQ := hide hQ
  obtain ⟨nn, hnn, c0⟩ := hQ.c0 w (Below.refl _ _)
  have hqz := hQ.hq
  rw [← hnn] at hqz
  have ck := hQ.ck w (Below.refl _ _)
  have cs := hQ.cs w (Below.refl _ _)
  rw [hk] at ck
  have HNM : Hid (Calls Tryz.prog 101 #[.string s] w fun e w' => e = .returned (.bool false) ∧ w' = w) := hide (by have := refName_any s w hm; rw [hn] at this; exact this)
  clear hQ hnn hk hm hn
  go_enter Tryz.func77, Tryz.ntmps77
  go_wp2_with (first
    | (go_at_call 67; refine (unhide HQ).is.mono ?_; rintro e w1 ⟨rfl, rfl⟩)
    | (go_at_call 101; refine (unhide HNM).mono ?_; rintro e w1 ⟨rfl, rfl⟩))
  go_ret2
  exact ⟨rfl, Below.refl _ _⟩

set_option maxHeartbeats 2000000 in
theorem ra_html (hQ : RAskN w bR os q g cap n m a cp) (s : ByteArray) (hm : s.size ≤ maxLen) (hk : kindO os q = 1) (hn : nameM s = true) (h0 : spaceO os q = 0) :
    Calls Tryz.prog 77 #[.pointer (some ⟨bR, 0, none⟩), .int .i64 q, .string s] w fun e w' => e = .returned (.tuple #[.string (lowS s), .int .i64 0]) ∧ Below w.heap.size w w' := by
  have HQ := hide hQ
  obtain ⟨nn, hnn, c0⟩ := hQ.c0 w (Below.refl _ _)
  have hqz := hQ.hq
  rw [← hnn] at hqz
  have ck := hQ.ck w (Below.refl _ _)
  have cs := hQ.cs w (Below.refl _ _)
  rw [hk] at ck
  have HNM : Hid (Calls Tryz.prog 101 #[.string s] w fun e w' => e = .returned (.bool true) ∧ w' = w) := hide (by have := refName_any s w hm; rw [hn] at this; exact this)
  have H100 := hide (nameM_size hn).2
  rw [h0] at cs
  clear hQ hnn hk hm hn h0
  go_enter Tryz.func77, Tryz.ntmps77
  go_wp2_with (first
    | (go_at_call 67; refine (unhide HQ).is.mono ?_; rintro e w1 ⟨rfl, rfl⟩)
    | (go_at_call 101; refine (unhide HNM).mono ?_; rintro e w1 ⟨rfl, rfl⟩)
    | (go_at_call 76; refine (refSmall_any s _ (unhide H100)).mono ?_; rintro e w5 ⟨rfl, hb⟩; have HBC := hide hb; clear hb))
  go_ret2
  exact ⟨rfl, unhide HBC⟩

set_option maxHeartbeats 2000000 in
theorem ra_else (hQ : RAskN w bR os q g cap n m a cp) (s : ByteArray) (hm : s.size ≤ maxLen) (hk : kindO os q = 1) (hn : nameM s = true) (z : Int) (h0 : spaceO os q = z) (hz : z ≠ 0) :
    Calls Tryz.prog 77 #[.pointer (some ⟨bR, 0, none⟩), .int .i64 q, .string s] w fun e w' => e = .returned (.tuple #[.string s, .int .i64 0]) ∧ Below w.heap.size w w' := by
  have HQ := hide hQ
  obtain ⟨nn, hnn, c0⟩ := hQ.c0 w (Below.refl _ _)
  have hqz := hQ.hq
  rw [← hnn] at hqz
  have ck := hQ.ck w (Below.refl _ _)
  have cs := hQ.cs w (Below.refl _ _)
  rw [hk] at ck
  have HNM : Hid (Calls Tryz.prog 101 #[.string s] w fun e w' => e = .returned (.bool true) ∧ w' = w) := hide (by have := refName_any s w hm; rw [hn] at this; exact this)
  have z1 : (z == 0) = false := by simpa using hz
  rw [h0] at cs
  clear hQ hnn hk hm hn h0
  go_enter Tryz.func77, Tryz.ntmps77
  go_wp2_with (first
    | (go_at_call 67; refine (unhide HQ).is.mono ?_; rintro e w1 ⟨rfl, rfl⟩)
    | (go_at_call 101; refine (unhide HNM).mono ?_; rintro e w1 ⟨rfl, rfl⟩))
  go_ret2
  exact ⟨rfl, Below.refl _ _⟩
end
end Go.Proofs.YtnclnijlpchdnaaGreat

namespace Go.Proofs.YtnclnijlpchdnaaGreat
open Go.RowKit

theorem cnt_some (os : List OneM) (l : List Nat) : someO os 1 l = decide (0 < cntO os l [1]) := by
  have h := cnt_one0 os l 1
  cases hs : someO os 1 l
  · rw [hs] at h
    have : cntO os l [1] = 0 := by simpa using h
    simp [this]
  · rw [hs] at h
    have : cntO os l [1] ≠ 0 := by simpa using h
    exact (decide_eq_true (by omega)).symm

section
variable {w W W' : World} {base bR : Nat} {os : List OneM} {G : Nat → Prop} {ns : List NodeM}

theorem URS.of_urf {os1 : List OneM} (h : URf G w W base bR os1) (hs : ∃ ms, Sim ms os1) : URS G w W base bR os1 := ⟨h, hs⟩

theorem refAddText_any (hS : RfS w base bR os G) (hs : Sim ns os) (s : ByteArray) (p : Int) :
    Calls Tryz.prog 28 #[.pointer (some ⟨bR, 0, none⟩), .string s, .int .i64 p] w fun e w' => e = .returned (.tuple #[.int .i64 (addTextO os s p).2.1, .int .i64 (addTextO os s p).2.2]) ∧ URf G w w' base bR (addTextO os s p).1 := by
  unfold addTextO
  cases hno : hasO os p with
  | false => rw [if_pos rfl]; exact (rAddText_none hS s p hno).mono fun e w' ⟨h1, h2⟩ => ⟨h1, hS.upd h2⟩
  | true =>
    rw [if_neg (by simp)]
    obtain ⟨q, oq, rfl, hoq⟩ := hasO_yes hno
    have hlt := (List.getElem?_eq_some_iff.1 hoq).1
    obtain ⟨g, cap, m, a, cp, hQ⟩ := raskN hS hs q hlt
    cases hl : longS s with
    | true =>
      rw [if_pos rfl]
      exact (rt_long hQ s (by have := of_decide_eq_true hl; omega)).mono fun e w' ⟨h1, h2⟩ => ⟨h1, hS.upd h2⟩
    | false =>
      rw [if_neg (by simp)]
      have hl' : ¬ (1048576 : Int) < (s.size : Int) := by have := of_decide_eq_false hl; omega
      by_cases hf : 32768 ≤ os.length
      · rw [if_pos hf]
        exact (rt_full hQ s hl' (by omega)).mono fun e w' ⟨h1, h2⟩ => ⟨h1, hS.upd h2⟩
      · rw [if_neg hf]
        cases hp : parentM (kindO os q) with
        | false =>
          rw [if_pos (.inr rfl)]
          exact (rt_par hQ s hl' (by omega) hp).mono fun e w' ⟨h1, h2⟩ => ⟨h1, hS.upd h2⟩
        | true =>
          by_cases h0 : q = 0
          · rw [if_pos (.inl (by omega))]
            exact (rt_doc hQ s hl' (by omega) hp h0).mono fun e w' ⟨h1, h2⟩ => ⟨h1, hS.upd h2⟩
          · rw [if_neg (by simp; omega)]
            have hd : dataO os 2 s = (os ++ [dataQ 2 s], (os.length : Int), 0) := by unfold dataO addO; rw [hl, if_neg (by simp), if_pos (by omega)]
            obtain ⟨ms, hms⟩ := simO_text hs s
            rw [hd] at hms
            have hp' := hp
            rw [kindO_of hoq] at hp'
            refine (rt_ok (w0 := w) (base := base) (G := G) (os1 := appO os q (dataQ 2 s)) hQ s hl' (by omega) hp h0 ?_).mono fun e w' ⟨h1, h2⟩ => ⟨h1, h2.1⟩
            have hel := refText_sim hS s
            rw [hd] at hel
            refine hel.mono fun e w6 ⟨he, hu⟩ => ⟨he, ((URS.of_urf hu ⟨ms, hms⟩).link q os.length (-1)).mono fun e w' ⟨k1, k2⟩ => ?_⟩
            rw [link_new hms hoq hp' rfl rfl rfl (by simp [dataQ, oneM]) (by simp [dataQ, oneM])] at k1
            rw [linkR_new hms hoq hp' rfl rfl rfl (by simp [dataQ, oneM]) (by simp [dataQ, oneM])] at k2
            exact ⟨k1, k2⟩

theorem refAddElem_any (hS : RfS w base bR os G) (hs : Sim ns os) (s : ByteArray) (hm : s.size ≤ maxLen) (p : Int) :
    Calls Tryz.prog 29 #[.pointer (some ⟨bR, 0, none⟩), .string s, .int .i64 p] w fun e w' => e = .returned (.tuple #[.int .i64 (addElemO os s p).2.1, .int .i64 (addElemO os s p).2.2]) ∧ URf G w w' base bR (addElemO os s p).1 := by
  unfold addElemO
  cases hno : hasO os p with
  | false => rw [if_pos rfl]; exact (rAddElement_none hS s p hno).mono fun e w' ⟨h1, h2⟩ => ⟨h1, hS.upd h2⟩
  | true =>
    rw [if_neg (by simp)]
    obtain ⟨q, oq, rfl, hoq⟩ := hasO_yes hno
    have hlt := (List.getElem?_eq_some_iff.1 hoq).1
    obtain ⟨g, cap, m, a, cp, hQ⟩ := raskN hS hs q hlt
    have hg : ∀ W, Calls Tryz.prog 74 #[.string s] W fun e w' => e = .returned (.bool (tagM s)) ∧ Below W.heap.size W w' := fun W => refTag_any s W hm
    have hpw : ∀ W, Below w.heap.size w W → Calls Tryz.prog 68 #[.pointer (some ⟨bR, 0, none⟩), .int .i64 q] W fun e w' => e = .returned (.bool (parentM (kindO os q))) ∧ W = w' := fun W hW => by
      obtain ⟨g', cap', rs, h, rfl, _⟩ := hS.below hW
      have hl := osOf_len rs
      have hr : rs[q]? = some rs[q] := List.getElem?_eq_getElem (by omega)
      rw [kindO_of (osOf_get hr)]
      exact refParent_any h q _ hr
    cases ht : tagM s with
    | false =>
      rw [if_pos rfl]
      rw [ht] at hg
      exact (re_tag hQ s hg).mono fun e w' ⟨h1, h2⟩ => ⟨h1, hS.upd h2⟩
    | true =>
      rw [if_neg (by simp)]
      rw [ht] at hg
      have h100 : s.size ≤ 100 := by
        unfold tagM at ht
        rw [Bool.and_eq_true] at ht
        exact (nameM_size ht.1).2
      cases hp : parentM (kindO os q) with
      | false =>
        rw [if_pos (.inl rfl)]
        rw [hp] at hpw
        exact (re_par hQ s hg hpw).mono fun e w' ⟨h1, h2⟩ => ⟨h1, hS.upd h2⟩
      | true =>
        rw [hp] at hpw
        by_cases htwo : q = 0 ∧ 0 < cntO os (kidsO os 0) [1]
        · rw [if_pos (.inr ⟨by omega, htwo.2⟩)]
          exact (re_two hQ s hg hpw htwo.1 (by rw [cnt_some]; exact decide_eq_true htwo.2)).mono fun e w' ⟨h1, h2⟩ => ⟨h1, hS.upd h2⟩
        · rw [if_neg (by rintro (e | ⟨e1, e2⟩); cases e; exact htwo ⟨by omega, e2⟩)]
          have hsm : q = 0 → someO os 1 (kidsO os 0) = false := fun h0 => by rw [cnt_some]; exact decide_eq_false (fun e => htwo ⟨h0, e⟩)
          have hE : ∀ W, Below w.heap.size w W → Calls Tryz.prog 56 #[.pointer (some ⟨bR, 0, none⟩), .int .i64 0, .string (lowS s), .slice none 0 0] W fun e w6 => e = .returned (.tuple #[.int .i64 (elemO os 0 (lowS s) []).2.1, .int .i64 (elemO os 0 (lowS s) []).2.2]) ∧ URS G w w6 base bR (elemO os 0 (lowS s) []).1 := fun W hW =>
            (refElement_sim (hS.below hW) 0 (lowS s) none 0 [] ⟨fun i x hi => by simp at hi⟩ (by simp)).mono fun e w6 ⟨h1, h2⟩ => ⟨h1, URf.after hW h2, simO_elem hs (lowS s)⟩
          rcases elemO_cases (os := os) (lowS s) (by rw [lowS_size]; exact h100) with ⟨e1, e2, ext, x, e3, e4, e5, e6⟩ | e
          · rw [if_neg (by simp [e1])]
            rw [e1, e2, e3] at hE
            rw [e2, e3]
            have hp' := hp
            rw [kindO_of hoq] at hp'
            have hE' : ∀ W, Below w.heap.size w W → Calls Tryz.prog 56 #[.pointer (some ⟨bR, 0, none⟩), .int .i64 0, .string (lowS s), .slice none 0 0] W fun e w6 => e = .returned (.tuple #[.int .i64 os.length, .int .i64 0]) ∧ Calls Tryz.prog 73 #[.pointer (some ⟨bR, 0, none⟩), .int .i64 q, .int .i64 os.length, .int .i64 (-1)] w6 fun e w' => e = .returned (.int .i64 0) ∧ URS G w w' base bR (linkR (os ++ ext) q os.length (-1)) := fun W hW =>
              (hE W hW).mono fun e w6 ⟨h1, h2⟩ => ⟨h1, (h2.link q os.length (-1)).mono fun e w' ⟨k1, k2⟩ => ⟨by rw [k1, link_ext hs e4 hoq hp' e5 e6], k2⟩⟩
            by_cases h0 : q = 0
            · exact (re_ok0 hQ s hg hpw h0 (hsm h0) h100 _ hE').mono fun e w' ⟨h1, h2⟩ => ⟨h1, h2.1⟩
            · exact (re_ok1 hQ s hg hpw h0 h100 _ hE').mono fun e w' ⟨h1, h2⟩ => ⟨h1, h2.1⟩
          · rw [if_pos (by rw [e]; simp)]
            rw [e] at hE
            by_cases h0 : q = 0
            · exact (re_full0 hQ s hg hpw h0 (hsm h0) h100 hE).mono fun e w' ⟨h1, h2⟩ => ⟨h1, h2.1⟩
            · exact (re_full1 hQ s hg hpw h0 h100 hE).mono fun e w' ⟨h1, h2⟩ => ⟨h1, h2.1⟩

theorem refAttrName_any (hS : RfS w base bR os G) (hs : Sim ns os) (id : Int) (s : ByteArray) (hm : s.size ≤ maxLen) :
    Calls Tryz.prog 77 #[.pointer (some ⟨bR, 0, none⟩), .int .i64 id, .string s] w fun e w' => e = .returned (.tuple #[.string (if attrNE os id s = 0 then attrN os id s else ⟨#[]⟩), .int .i64 (attrNE os id s)]) ∧ Below w.heap.size w w' := by
  unfold attrNE
  cases hno : hasO os id with
  | false => exact rattr_none hS s id hno
  | true =>
    obtain ⟨q, oq, rfl, hoq⟩ := hasO_yes hno
    obtain ⟨g, cap, m, a, cp, hQ⟩ := raskN hS hs q (List.getElem?_eq_some_iff.1 hoq).1
    by_cases hk : kindO os q = 1
    · cases hn : nameM s with
      | false =>
        have := ra_name hQ s hm hk hn
        simpa [hk] using this
      | true =>
        unfold attrN
        by_cases h0 : spaceO os q = 0
        · have := ra_html hQ s hm hk hn h0
          simpa [hk, h0] using this
        · have := ra_else hQ s hm hk hn _ rfl h0
          simpa [hk, h0] using this
    · have := ra_kind hQ s _ rfl hk
      simpa [hk] using this

set_option maxHeartbeats 1000000 in
theorem refSet_any (hS : RfS w base bR os G) (hs : Sim ns os) (id : Int) (s v : ByteArray) (hm : s.size ≤ maxLen) :
    Calls Tryz.prog 30 #[.pointer (some ⟨bR, 0, none⟩), .int .i64 id, .string s, .string v] w fun e w' => e = .returned (.int .i64 (edSetE os id s v)) ∧ URf G w w' base bR (edSetR os id s v) := by
  have hN := refAttrName_any hS hs id s hm
  unfold edSetE edSetR
  by_cases he : attrNE os id s = 0
  · rw [if_neg (by simp [he]), if_neg (by simp [he])]
    rw [he, if_pos rfl] at hN
    have HN := hide hN
    have HS : Hid (∀ W, Below w.heap.size w W → Calls Tryz.prog 78 #[.pointer (some ⟨bR, 0, none⟩), .int .i64 id, .agg #[.int .i64 0, .string ⟨#[]⟩, .string (attrN os id s), .string v]] W fun e w' => e = .returned (.int .i64 (setAttrE os id (setX os id s v))) ∧ URf G w w' base bR (setAttrR os id (setX os id s v))) :=
      hide (fun W hW => (refSetAttr_sim (hS.below hW) id (setX os id s v)).mono fun e w' ⟨h1, h2⟩ => ⟨h1, URf.after hW h2⟩)
    generalize setAttrE os id (setX os id s v) = ev at HS ⊢
    generalize setAttrR os id (setX os id s v) = ov at HS ⊢
    generalize attrN os id s = nm at HN HS
    clear hS hs hN he hm
    go_enter Tryz.func30, Tryz.ntmps30
    go_wp2_with (first
      | (go_at_call 77; refine (unhide HN).mono ?_; rintro e w1 ⟨rfl, hb⟩; have HB := hide hb; clear hb)
      | (go_at_call 78; refine ((unhide HS) _ (unhide HB)).mono ?_; rintro e w2 ⟨rfl, hu⟩; have HU := hide hu; clear hu))
    go_ret
    exact ⟨rfl, unhide HU⟩
  · rw [if_pos he, if_pos he]
    rw [if_neg he] at hN
    have HN := hide hN
    have HU : Hid (∀ W, Below w.heap.size w W → URf G w W base bR os) := hide (fun W hW => hS.upd hW)
    generalize attrNE os id s = ev at HN he ⊢
    have hz : (ev != 0) = true := by simpa using he
    clear hS hs hN hm
    go_enter Tryz.func30, Tryz.ntmps30
    go_wp2_with (first
      | (go_at_call 77; refine (unhide HN).mono ?_; rintro e w1 ⟨rfl, hb⟩; have HB := hide hb; clear hb))
    go_ret
    exact ⟨rfl, (unhide HU) _ (unhide HB)⟩

set_option maxHeartbeats 1000000 in
theorem refDel_any (hS : RfS w base bR os G) (hs : Sim ns os) (id : Int) (s : ByteArray) (hm : s.size ≤ maxLen) :
    Calls Tryz.prog 31 #[.pointer (some ⟨bR, 0, none⟩), .int .i64 id, .string s] w fun e w' => e = .returned (.int .i64 (edDelE os id s)) ∧ URf G w w' base bR (edDelR os id s) := by
  have hN := refAttrName_any hS hs id s hm
  unfold edDelE edDelR
  by_cases he : attrNE os id s = 0
  · rw [if_neg (by simp [he]), if_neg (by simp [he])]
    rw [he, if_pos rfl] at hN
    have HN := hide hN
    have HS : Hid (∀ W, Below w.heap.size w W → Calls Tryz.prog 79 #[.pointer (some ⟨bR, 0, none⟩), .int .i64 id, .int .i64 0, .string (attrN os id s)] W fun e w' => e = .returned (.int .i64 (delAttrE os id 0 (attrN os id s))) ∧ URf G w w' base bR (delAttrR os id 0 (attrN os id s))) :=
      hide (fun W hW => (refDelAttr_sim (hS.below hW) id 0 (attrN os id s)).mono fun e w' ⟨h1, h2⟩ => ⟨h1, URf.after hW h2⟩)
    generalize delAttrE os id 0 (attrN os id s) = ev at HS ⊢
    generalize delAttrR os id 0 (attrN os id s) = ov at HS ⊢
    generalize attrN os id s = nm at HN HS
    clear hS hs hN he hm
    go_enter Tryz.func31, Tryz.ntmps31
    go_wp2_with (first
      | (go_at_call 77; refine (unhide HN).mono ?_; rintro e w1 ⟨rfl, hb⟩; have HB := hide hb; clear hb)
      | (go_at_call 79; refine ((unhide HS) _ (unhide HB)).mono ?_; rintro e w2 ⟨rfl, hu⟩; have HU := hide hu; clear hu))
    go_ret
    exact ⟨rfl, unhide HU⟩
  · rw [if_pos he, if_pos he]
    rw [if_neg he] at hN
    have HN := hide hN
    have HU : Hid (∀ W, Below w.heap.size w W → URf G w W base bR os) := hide (fun W hW => hS.upd hW)
    generalize attrNE os id s = ev at HN he ⊢
    have hz : (ev != 0) = true := by simpa using he
    clear hS hs hN hm
    go_enter Tryz.func31, Tryz.ntmps31
    go_wp2_with (first
      | (go_at_call 77; refine (unhide HN).mono ?_; rintro e w1 ⟨rfl, hb⟩; have HB := hide hb; clear hb))
    go_ret
    exact ⟨rfl, (unhide HU) _ (unhide HB)⟩
end
end Go.Proofs.YtnclnijlpchdnaaGreat
