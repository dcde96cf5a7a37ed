/-
  New, End, Drop, Len, Marks, Peek, Next of package input, the places hidden.
-/
import Derived.Test.YtlhebbhpcepfhaaPf
namespace Go.Proofs.Ytlhebbhpcepfhaa
open Go.RowKit

def newM : StrM := ⟨[[]], false, false, false⟩
def StrM.last (m : StrM) : List Int := m.parts[m.parts.length - 1]?.getD []
def peekM (m : StrM) : Int × Bool := match m.last with
  | x :: _ => (x, true)
  | [] => if m.parts.length = 1 ∧ m.ended = true then (-1, true) else (0, false)
def nextM (m : StrM) : StrM := { m with parts := m.parts.set (m.parts.length - 1) m.last.tail }
def finM (m : StrM) : StrM := { m with ended := true }
def dropM (m : StrM) : StrM := if m.dropped then m else ⟨[[]], m.cr, true, true⟩

section
variable {w : World} {base bS : Nat} {m : StrM} {F : Nat → Prop}

theorem StrS.pos (h : StrS w base bS m F) : 0 < m.parts.length ∧ m.parts.length ≤ 22 ∧ m.len ≤ 1048576 := by
  obtain ⟨bP, pcap, bC, ps, h, e, l, _⟩ := h
  rw [← e, List.length_map]
  exact ⟨h.pos, h.few, l⟩
theorem made_s (h : StrS w base bS m F) : Calls Try.prog 35 #[.pointer (some ⟨bS, 0, none⟩)] w fun e w' => e = .returned (.bool true) ∧ w = w' := by
  obtain ⟨bP, pcap, bC, ps, h, _⟩ := h
  exact made_any h
theorem marks_s (h : StrS w base bS m F) : Calls Try.prog 13 #[.pointer (some ⟨bS, 0, none⟩)] w fun e w' => e = .returned (.int .i64 ((m.parts.length : Int) - 1)) ∧ w = w' := by
  obtain ⟨bP, pcap, bC, ps, h, e, _⟩ := h
  rw [← e, List.length_map]
  exact marks_any h
theorem len_s (h : StrS w base bS m F) : Calls Try.prog 12 #[.pointer (some ⟨bS, 0, none⟩)] w fun e w' => e = .returned (.int .i64 (m.len : Int)) ∧ w = w' := by
  obtain ⟨bP, pcap, bC, ps, h, e, l, _⟩ := h
  rw [← lenP_eq e] at l ⊢
  exact len_any h l
theorem end_s (h : StrS w base bS m F) : Calls Try.prog 17 #[.pointer (some ⟨bS, 0, none⟩)] w fun e w' => e = .returned (.int .i64 (if m.ended then 5 else 0)) ∧ UpdS F w w' base bS (finM m) := by
  obtain ⟨bP, pcap, bC, ps, h, e, l, hF⟩ := h
  refine (end_at h).mono ?_
  rintro e1 w' ⟨rfl, rfl⟩
  refine ⟨rfl, ?_⟩
  obtain ⟨parts, cr, ended, dropped⟩ := m
  cases ended
  · exact ⟨F, ⟨bP, pcap, bC, ps, h.setEnded true, e, l, hF⟩, Mod.setCell _ _ _ ((hF bS).2 (.inl rfl)), fun _ hk => .inl hk⟩
  · exact ⟨F, ⟨bP, pcap, bC, ps, h, e, l, hF⟩, Mod.refl _ _, fun _ hk => .inl hk⟩

theorem row_one (w : World) (base : Nat) (hb : base ≤ w.heap.size) : (w.alloc (.cells #[.slice none 0 0] 28)).ownsRow base 28 1 (.slice (some ⟨w.heap.size, 0, none⟩) 1 1) 1 [.slice none 0 0] := by
  have := World.ownsRow_lit (base := base) (e := 28) (size := 1) w #[.slice none 0 0] 1 hb (by simp [maxLen]) (by rfl)
  simpa using this

theorem drop_s (h : StrS w base bS m F) : Calls Try.prog 25 #[.pointer (some ⟨bS, 0, none⟩)] w fun e w' => e = .returned (.int .i64 (if m.dropped then 5 else 0)) ∧ UpdS F w w' base bS (dropM m) := by
  have hbl := h.base_le
  obtain ⟨bP, pcap, bC, ps, h, e, l, hF⟩ := h
  refine (drop_at h).mono ?_
  rintro e1 w' ⟨rfl, rfl⟩
  refine ⟨rfl, ?_⟩
  obtain ⟨parts, cr, ended, dropped⟩ := m
  cases dropped
  · have hr := h.setRow (w1 := w.alloc (.cells #[.slice none 0 0] 28)) (g := w.heap.size) (cap := 1) (qs := [⟨none, 0, []⟩]) (Mod.of_below ((Below.refl _ w).alloc (Nat.le_refl _) _)) (row_one w base hbl.1)
      (fun i p hi => by
        match i, hi with
        | 0, hi => simp at hi; subst hi; exact PartAt.nil _ _ _)
      (fun i j p q hij hi hj => by
        match i, hi with
        | 0, hi => simp at hi; subst hi; exact .inl rfl) (by simp) (by simp)
    have hs := (hr.1.setEnded true).setDropped true
    refine ⟨footS bS w.heap.size bC [⟨none, 0, []⟩], ⟨_, _, _, _, hs, rfl, by simp [dropM, StrM.len], fun _ => Iff.rfl⟩, ?_, ?_⟩
    · exact ((hr.2.mono (fun k _ hk => (hF k).2 (hk.elim .inl (fun h => .inr (.inl h))))).trans (Mod.setCell _ _ _ ((hF bS).2 (.inl rfl)))).trans (Mod.setCell _ _ _ ((hF bS).2 (.inl rfl)))
    · rintro k (rfl | rfl | rfl | ⟨p, hp, hk⟩)
      · exact .inl ((hF _).2 (.inl rfl))
      · exact .inr (Nat.le_refl _)
      · exact .inl ((hF _).2 (.inr (.inr (.inl rfl))))
      · simp at hp; subst hp; simp [PartM.own] at hk
  · exact ⟨F, ⟨bP, pcap, bC, ps, h, e, l, hF⟩, Mod.refl _ _, fun _ hk => .inl hk⟩

theorem last_part {ps : List PartM} {m : StrM} (h : ps.map PartM.xs = m.parts) (hp : 0 < ps.length) : ∃ p, ps[ps.length - 1]? = some p ∧ p.xs = m.last := by
  refine ⟨ps[ps.length - 1], List.getElem?_eq_getElem (by omega), ?_⟩
  unfold StrM.last
  rw [← h, List.length_map, List.getElem?_map, List.getElem?_eq_getElem (by omega)]
  rfl
theorem peekP_eq {p : PartM} {m : StrM} (h : p.xs = m.last) : peekP p m.parts.length m.ended = peekM m := by
  unfold peekP peekM
  rw [h]
  cases m.last <;> rfl

theorem peek_s (h : StrS w base bS m F) : Calls Try.prog 24 #[.pointer (some ⟨bS, 0, none⟩)] w fun e w' => e = .returned (.tuple #[.int .i32 (peekM m).1, .bool (peekM m).2]) ∧ ∃ n, w' = w.drewN n := by
  obtain ⟨bP, pcap, bC, ps, h, e, l, hF⟩ := h
  obtain ⟨p, hp, hx⟩ := last_part e h.pos
  have := peek_at h hp
  rw [show ps.length = m.parts.length by rw [← e, List.length_map], peekP_eq hx] at this
  exact this

theorem set_sum {l : List (List Int)} {i : Nat} {x y : List Int} (hi : l[i]? = some x) : ((l.set i y).map List.length).sum + x.length = (l.map List.length).sum + y.length := by
  induction l generalizing i with
  | nil => simp at hi
  | cons a l ih =>
    cases i with
    | zero => simp at hi; subst hi; simp; omega
    | succ i => simp at hi; have := ih hi; simp only [List.set_cons_succ, List.map_cons, List.sum_cons]; omega

/-- One part of the stream is another. -/
theorem StrS.put {bP pcap bC : Nat} {ps : List PartM} {w1 : World} (h : StrAt w base bS bP pcap bC ps m.cr m.ended m.dropped) (e : ps.map PartM.xs = m.parts) (hF : ∀ k, F k ↔ footS bS bP bC ps k) {i : Nat} {p p' : PartM} {cr' : Bool} (hi : ps[i]? = some p)
    (hm : Mod (fun k => p.own = some k ∨ k = bC) w w1) (hp : PartAt w1 base p') (ho : ∀ k, p'.own = some k → p.own = some k ∨ w.heap.size ≤ k) (hc : Cr w1 bC cr') {m2 : StrM} (h2 : m2.parts = m.parts.set i p'.xs) (h3 : m2.cr = cr' ∧ m2.ended = m.ended ∧ m2.dropped = m.dropped) (hl : m2.len ≤ 1048576) :
    UpdS F w (w1.setCell ⟨bP, i, none⟩ p'.val) base bS m2 := by
  have hq := h.put hi hm hp ho hc
  refine ⟨footS bS bP bC (ps.set i p'), ⟨bP, pcap, bC, ps.set i p', ?_, by rw [List.map_set, e, h2], hl, fun _ => Iff.rfl⟩, hq.2.mono (fun k _ hk => (hF k).2 hk), fun k hk => ?_⟩
  · rw [h3.1, h3.2.1, h3.2.2]; exact hq.1
  · exact (foot_put hi ho k hk).imp (hF k).2 id

theorem next_len (m : StrM) : (nextM m).len ≤ m.len := by
  unfold StrM.len nextM StrM.last
  cases hx : m.parts[m.parts.length - 1]? with
  | none =>
    simp only
    rw [List.set_eq_of_length_le (by
      rcases Nat.eq_zero_or_pos m.parts.length with h | h
      · omega
      · rw [List.getElem?_eq_getElem (by omega)] at hx; cases hx)]
    exact Nat.le_refl _
  | some x =>
    have := set_sum (y := x.tail) hx
    simp only [Option.getD_some]
    rw [List.length_tail] at this
    omega

theorem next_nil {m : StrM} (hp : 0 < m.parts.length) (h : m.last = []) : nextM m = m := by
  unfold nextM
  rw [h]
  have : m.parts.set (m.parts.length - 1) [] = m.parts := by
    unfold StrM.last at h
    rw [List.getElem?_eq_getElem (by omega)] at h
    simp only [Option.getD_some] at h
    rw [← h]
    exact List.set_getElem_self (by omega)
  show StrM.mk (m.parts.set (m.parts.length - 1) []) m.cr m.ended m.dropped = m
  rw [this]
theorem peek_false {m : StrM} (h : (peekM m).2 = false) : m.last = [] ∧ peekM m = (0, false) := by
  unfold peekM at h ⊢
  cases hl : m.last with
  | cons x l => rw [hl] at h; cases h
  | nil =>
    rw [hl] at h
    refine ⟨rfl, ?_⟩
    simp only at h ⊢
    split at h
    · cases h
    · rename_i h2
      rw [if_neg h2]

theorem next_s (h : StrS w base bS m F) : Calls Try.prog 22 #[.pointer (some ⟨bS, 0, none⟩)] w fun e w' => e = .returned (.tuple #[.int .i32 (peekM m).1, .bool (peekM m).2]) ∧ UpdS F w w' base bS (nextM m) := by
  have HP := hide (peek_s h)
  have hk : ∀ n, StrS (w.drewN n) base bS m F := fun n => h.below (below_dw w n)
  have HK := hide hk
  by_cases hok : (peekM m).2 = true
  · rw [hok] at HP ⊢
    have HS : Hid (∀ n, Calls Try.prog 39 #[.pointer (some ⟨bS, 0, none⟩)] (w.drewN n) fun e w' => e = .returned (.tuple #[]) ∧ UpdS F (w.drewN n) w' base bS (nextM m)) := hide (by
      intro n
      obtain ⟨bP, pcap, bC, ps, h, e, l, hF⟩ := hk n
      obtain ⟨p, hp, hx⟩ := last_part e h.pos
      have hmp : 0 < m.parts.length := by rw [← e, List.length_map]; exact h.pos
      by_cases hn : p.xs = []
      · refine (skip_none h hp hn).mono ?_
        rintro e1 w' ⟨rfl, rfl⟩
        rw [next_nil hmp (hx ▸ hn)]
        exact ⟨rfl, F, ⟨bP, pcap, bC, ps, h, e, l, hF⟩, Mod.refl _ _, fun _ hk => .inl hk⟩
      · refine (skip_at h hp hn).mono ?_
        rintro e1 w' ⟨rfl, p', w1, rfl, hb, hpa, hpx, hpo⟩
        refine ⟨rfl, StrS.put h e hF hp (Mod.of_below hb) (hpa.below hb) (fun k hk => .inl (hpo k hk)) (cr' := m.cr) ?_ ?_ ⟨rfl, rfl, rfl⟩ (Nat.le_trans (next_len m) l)⟩
        · unfold Cr; rw [hb.block bC h.lt.2.2]; exact h.mem
        · show m.parts.set (m.parts.length - 1) m.last.tail = _
          rw [hpx, hx, ← e, List.length_map])
    clear h hk hok
    go_enter Try.func22, Try.ntmps22
    go_wp2_with (first
      | (go_at_call 24; go_must (refine (unhide HP).mono ?_); rintro e w1 ⟨rfl, n, rfl⟩)
      | (go_at_call 39; go_must (refine ((unhide HS) _).mono ?_); rintro e w2 ⟨rfl, hu⟩; have HU := hide hu; clear hu))
    go_ret2
    exact ⟨rfl, (unhide HU).after (below_dw _ _)⟩
  · have hok' : (peekM m).2 = false := by simpa using hok
    obtain ⟨hl, hpk⟩ := peek_false hok'
    rw [hpk] at HP ⊢
    have HN := hide (next_nil h.pos.1 hl)
    clear hok hok' hpk hl hk
    go_enter Try.func22, Try.ntmps22
    go_wp2_with (go_at_call 24; go_must (refine (unhide HP).mono ?_); rintro e w1 ⟨rfl, n, rfl⟩)
    go_ret2
    refine ⟨rfl, ?_⟩
    rw [unhide HN]
    exact h.upd (below_dw _ _)

/-- A stream that was just made. -/
theorem str_new {w w' : World} {base bC bP : Nat} (hb : Below w.heap.size w w') (hw : base ≤ w.heap.size) (hC : w.heap.size ≤ bC) (hP : w.heap.size ≤ bP) (hc : Cr w' bC false) (hp : w'.heap[bP]? = some (.cells #[.slice none 0 0] 28 (0, 0))) :
    StrS (w'.alloc (.cells #[.slice (some ⟨bP, 0, none⟩) 1 1, .func (.func 41) #[] #[.pointer (some ⟨bC, 0, none⟩)], .bool false, .bool false] 52)) base w'.heap.size newM (footS w'.heap.size bP bC [⟨none, 0, []⟩]) ∧
      ∀ k, footS w'.heap.size bP bC [⟨none, 0, []⟩] k → w.heap.size ≤ k := by
  have hs := hb.size
  have h1 := lt_of_block hp
  have h2 := hc.lt
  refine ⟨⟨bP, 1, bC, [⟨none, 0, []⟩], ⟨heap_alloc_new w' _, ?_, ?_, ?_, ?_, by simp, by simp, by omega, by omega⟩, rfl, by simp [newM, StrM.len], fun _ => Iff.rfl⟩, ?_⟩
  · refine ⟨rfl, .inr ⟨bP, 1, _, rfl, by omega, (Below.heap_alloc _ _ _ h1).trans hp, by simp, by simp [maxLen], rfl, rfl⟩⟩
  · exact (Below.heap_alloc _ _ _ h2).trans hc
  · intro i p hi
    match i, hi with
    | 0, hi => simp at hi; subst hi; exact PartAt.nil _ _ _
  · intro i j p q hij hi hj
    match i, hi with
    | 0, hi => simp at hi; subst hi; exact .inl rfl
  · rintro k (rfl | rfl | rfl | ⟨p, hp, hk⟩)
    · omega
    · omega
    · omega
    · simp at hp; subst hp; simp [PartM.own] at hk

theorem new_a (w : World) (base : Nat) (hb : base ≤ w.heap.size) : let W := ((w.alloc (.cells #[.slice none 0 0] 28)).alloc (.cells #[.bool false] 4)).alloc (.cells #[.slice (some ⟨w.heap.size, 0, none⟩) 1 1, .func (.func 41) #[] #[.pointer (some ⟨w.heap.size + 1, 0, none⟩)], .bool false, .bool false] 52)
    ∃ F, StrS W.drew base (w.heap.size + 1 + 1) newM F ∧ Below w.heap.size w W.drew ∧ ∀ k, F k → w.heap.size ≤ k := by
  intro W
  have B2 : Below w.heap.size w ((w.alloc (.cells #[.slice none 0 0] 28)).alloc (.cells #[.bool false] 4)) := ((Below.refl _ w).alloc (Nat.le_refl _) _).alloc (by simp) _
  have R := str_new (base := base) (bC := w.heap.size + 1) (bP := w.heap.size) B2 hb (by omega) (Nat.le_refl _) (by
    have := heap_alloc_new (w.alloc (.cells #[.slice none 0 0] 28)) (.cells #[.bool false] 4)
    rw [World.size_alloc] at this
    exact this) (by rw [Below.heap_alloc _ _ _ (by simp)]; exact heap_alloc_new w _)
  simp only [World.size_alloc] at R
  exact ⟨_, R.1.below (Below.refl _ _).drew, (B2.alloc (by simp; omega) _).drew, R.2⟩
theorem new_b (w : World) (base : Nat) (hb : base ≤ w.heap.size) : let W := ((w.alloc (.cells #[.bool false] 4)).alloc (.cells #[.slice none 0 0] 28)).alloc (.cells #[.slice (some ⟨w.heap.size + 1, 0, none⟩) 1 1, .func (.func 41) #[] #[.pointer (some ⟨w.heap.size, 0, none⟩)], .bool false, .bool false] 52)
    ∃ F, StrS W.drew base (w.heap.size + 1 + 1) newM F ∧ Below w.heap.size w W.drew ∧ ∀ k, F k → w.heap.size ≤ k := by
  intro W
  have B2 : Below w.heap.size w ((w.alloc (.cells #[.bool false] 4)).alloc (.cells #[.slice none 0 0] 28)) := ((Below.refl _ w).alloc (Nat.le_refl _) _).alloc (by simp) _
  have R := str_new (base := base) (bC := w.heap.size) (bP := w.heap.size + 1) B2 hb (Nat.le_refl _) (by omega) (by unfold Cr; rw [Below.heap_alloc _ _ _ (by simp)]; exact heap_alloc_new w _) (by
    have := heap_alloc_new (w.alloc (.cells #[.bool false] 4)) (.cells #[.slice none 0 0] 28)
    rw [World.size_alloc] at this
    exact this)
  simp only [World.size_alloc] at R
  exact ⟨_, R.1.below (Below.refl _ _).drew, (B2.alloc (by simp; omega) _).drew, R.2⟩

set_option maxHeartbeats 1000000 in
theorem new_s (w : World) (base : Nat) (hb : base ≤ w.heap.size) : Calls Try.prog 9 #[] w fun e w' => ∃ bS F, e = .returned (.pointer (some ⟨bS, 0, none⟩)) ∧ StrS w' base bS newM F ∧ Below w.heap.size w w' ∧ ∀ k, F k → w.heap.size ≤ k := by
  have hmk := make_one
  have HB := hide hb
  clear hb
  go_enter Try.func9, Try.ntmps9
  go_wp2_with fail
  go_region_with (go_at_call 26; go_must (refine (lineEnds_any _).mono ?_); rintro e w1 ⟨rfl, rfl⟩)
  all_goals (try go_wp2)
  all_goals go_ret
  · obtain ⟨F, r⟩ := new_a w base (unhide HB)
    exact ⟨_, F, rfl, r⟩
  · obtain ⟨F, r⟩ := new_b w base (unhide HB)
    exact ⟨_, F, rfl, r⟩
end
end Go.Proofs.Ytlhebbhpcepfhaa
