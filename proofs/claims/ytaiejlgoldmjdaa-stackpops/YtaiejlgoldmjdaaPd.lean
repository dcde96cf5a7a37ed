/-
  A pile of package stack: an item put in, an item taken out.
-/
import Derived.Test.YtaiejlgoldmjdaaPc
namespace Go.Proofs.Ytaiejlgoldmjdaa
open Go.RowKit

section
variable {w : World} {base b : Nat} {p : PartM}

theorem PartAt.low (h : PartAt w base p) (i : Nat) (hi : i ≤ p.xs.length) : PartAt w base (lowP p i) := by
  have hl := h.len
  have hm := h.most
  refine ⟨by simp [lowP]; omega, by simp only [lowP]; omega, ?_⟩
  by_cases e : i = 0
  · exact .inl e
  · obtain ⟨g, off, cur, ha, hb, hg, hs, hc⟩ := h.cellsAll (by omega)
    refine .inr ⟨g, off, cur, ha, hb, hg, by simp only [lowP]; omega, fun j x hj => ?_⟩
    simp only [lowP] at hj
    rw [List.getElem?_take] at hj
    split at hj
    · exact hc j x hj
    · cases hj
theorem low_own (h : PartAt w base p) (i : Nat) (hi : i ≤ p.xs.length) {k : Nat} (hk : (lowP p i).own = some k) : p.own = some k := by
  have hl := h.len
  unfold PartM.own lowP at hk
  unfold PartM.own
  simp only at hk
  split at hk
  · cases hk
  · rw [if_neg (by omega)]; exact hk
theorem low_len (i : Nat) (hi : i ≤ p.xs.length) : (lowP p i).xs.length = i := by simp [lowP]; omega
theorem RestIs.below {w' : World} {v : Value} {L : List Int} (h : RestIs w v L) (hb : Below w.heap.size w w') : RestIs w' v L := by
  obtain ⟨a, c, e, h1, h2⟩ := h
  exact ⟨a, c, e, h1.below hb, h2⟩

/-- A rest of at least one item, and what is behind its first. -/
theorem RestIs.open {v : Value} {L : List Int} (h : RestIs w v L) {m : Nat} (hL : L.length = m) (hm : 1 ≤ m) : ∃ g off c, v = .slice (some ⟨g, off, none⟩) m c ∧ m ≤ c ∧ c ≤ maxLen ∧ (L.drop 1).length = m - 1 ∧ (c = 1 → ∀ a, NumsIn w a (L.drop 1)) ∧ NumsIn w (some ⟨g, off + 1, none⟩) (L.drop 1) := by
  obtain ⟨a, c, rfl, hN, h1, h2⟩ := h
  obtain ⟨g, off, rfl, _⟩ := hN 0 _ (List.getElem?_eq_getElem (by omega))
  refine ⟨g, off, c, by rw [hL], by omega, h2, by simp; omega, fun e a j x hj => ?_, hN.drop 1⟩
  rw [List.drop_of_length_le (by omega)] at hj
  simp at hj

theorem wpList_part_n {ops : Array Oper} {rest : List Oper} {o : Oper} {act : Act} {Q : Exit → Act → World → Prop} (hgd : o.guard = none) (s x : Operand)
    (ho : o.op = .call { callee := .builtin .append, args := #[s, x], argTypes := #[70, 70] }) (hs : act.eval s = p.val) (a : Option Addr) (l : List Int) (n c : Nat) (hn : l.length = n) (hx : act.eval x = .slice a n c)
    (hp : PartAt w base p) (hb : base ≤ w.heap.size) (hl : NumsIn w a l) (hm : p.xs.length + l.length ≤ 1000000000)
    (h : ∀ p' w', PartAt w' base p' → p'.xs = p.xs ++ l → w.grownBy w' p.own → (p'.own = p.own ∨ p'.own = some w.heap.size) → wpList Try.prog ops Q rest (act.put o.dst p'.val) w') :
    wpList Try.prog ops Q (o :: rest) act w := by
  subst hn
  exact wpList_part_append hgd s x ho hs a l c hx hp hb hl hm (fun p' w' h1 h2 h3 h4 _ => h p' w' h1 h2 h3 h4)

/-- A pile whose list became another one. -/
theorem PileAt.done {w3 : World} {q : PartM} {L : List Int} (h : PileAt w base b p) (hm : Mod (fun k => p.own = some k) w w3) (hq : PartAt w3 base q) (hx : q.xs = L) (ho : ∀ k, q.own = some k → p.own = some k ∨ w.heap.size ≤ k) :
    UpdP w (w3.setCell ⟨b, 0, none⟩ q.val) base b p L := by
  obtain ⟨R1, R2⟩ := h.set hm hq
  refine ⟨q, R1, hx, R2, ?_⟩
  rintro k (rfl | hk)
  · exact .inl (.inl rfl)
  · exact (ho k hk).imp .inr id
/-- The pile's own cell where only its list's block was written. -/
theorem PileAt.cellM {w3 : World} (h : PileAt w base b p) (hm : Mod (fun k => p.own = some k) w w3) : w3.cell? ⟨b, 0, none⟩ = some p.val ∧ w3.frozen? ⟨b, 0, none⟩ = false := by
  have e : w3.heap[b]? = _ := (hm.block b h.lt h.ne).trans h.box
  exact ⟨cell_of_one e, free_of_one e⟩

set_option maxHeartbeats 2000000 in
theorem remove_any (h : PileAt w base b p) (hl : p.xs.length ≤ 100000) (i : Nat) (hi : i < p.xs.length) : Calls Try.prog 70 #[.pointer (some ⟨b, 0, none⟩), .int .i64 i] w fun e w' => e = .returned (.tuple #[]) ∧ UpdP w w' base b p (p.xs.take i ++ p.xs.drop (i + 1)) := by
  obtain ⟨m, hm, hm1⟩ : ∃ m, (p.xs.drop i).length = m ∧ 1 ≤ m := ⟨p.xs.length - i, by simp, by omega⟩
  have HP := hide (parts_any h i (by omega))
  have HLO := hide (h.part.low i (by omega))
  have HOW : Hid (∀ k, (lowP p i).own = some k → p.own = some k) := hide (fun k hk => low_own h.part i (by omega) hk)
  have HH := hide h
  have hmz : (m : Int) ≤ 100000 := by simp at hm; omega
  have hmz1 : (1 : Int) ≤ (m : Int) := by omega
  have HM1 := hide hm1
  have HD : Hid ((lowP p i).xs ++ (p.xs.drop i).drop 1 = p.xs.take i ++ p.xs.drop (i + 1) ∧ (lowP p i).xs.length + ((p.xs.drop i).drop 1).length ≤ 100000) := hide ⟨by simp [lowP], by simp [lowP]; omega⟩
  have HM := hide hm
  generalize lowP p i = lo at *
  generalize p.xs.drop i = L at *
  clear h hl hi hm hm1
  go_enter Try.func70, Try.ntmps70
  go_wp2_with fail
  refine (unhide HP).mono ?_
  rintro e w1 ⟨⟨v, rfl, hr⟩, hb1⟩
  obtain ⟨g, off, c, rfl, hcN, hc2, hlm, hN1, hN2⟩ := (hr.below hb1).open (unhide HM) (unhide HM1)
  have hcz : (m : Int) ≤ (c : Int) := by omega
  clear hcN
  have hcq : (c : Int) ≤ 9223372036854775807 := by unfold maxLen at hc2; omega
  have HLM := hide hlm
  have HB1 := hide hb1
  have key : ∀ (w3 : World) (q : PartM), PartAt w3 base q → q.xs = lo.xs ++ L.drop 1 → w1.grownBy w3 lo.own → (q.own = lo.own ∨ q.own = some w1.heap.size) → UpdP w (w3.setCell ⟨b, 0, none⟩ q.val) base b p (p.xs.take i ++ p.xs.drop (i + 1)) ∧ w3.cell? ⟨b, 0, none⟩ = some p.val ∧ w3.frozen? ⟨b, 0, none⟩ = false := by
    intro w3 q h1 h2 h3 h4
    have M : Mod (fun k => p.own = some k) w w3 := (Mod.of_below hb1).trans (Mod.grown h3 (fun k hk => (unhide HOW) k hk))
    refine ⟨(unhide HH).done M h1 (h2.trans (unhide HD).1) (fun k hk => ?_), (unhide HH).cellM M⟩
    rcases h4 with e | e
    · exact .inl ((unhide HOW) k (e ▸ hk))
    · rw [e] at hk
      simp at hk
      exact .inr (by have := hb1.size; omega)
  have HK := hide key
  have HSZ : Hid (base ≤ w1.heap.size) := hide (by have h1 := (unhide HH).lo; have h2 := (unhide HH).lt; have h3 := hb1.size; omega)
  have HLO1 := hide ((unhide HLO).below hb1)
  by_cases hc1 : c = 1
  · subst hc1
    have HN := hide (hN1 rfl (some ⟨g, off, none⟩))
    clear hb1 hr hN1 hN2 hlm hc2 HP key
    go_wp2_with (at_builtin; go_must (refine wpList_part_n (base := base) (p := lo) (by rfl) _ _ (by rfl) (by rfl) (some ⟨g, off, none⟩) (L.drop 1) (m - 1) 0 (unhide HLM) (by rfl) (unhide HLO1) (unhide HSZ) (unhide HN) (by have := (unhide HD).2; omega) ?_); intro q w3 g1 g2 g3 g4; obtain ⟨k1, k2, k3⟩ := (unhide HK) w3 q g1 g2 g3 g4; have HK1 := hide k1; clear g1 g2 g3 g4 k1; obtain ⟨qa, qc, qx⟩ := q; simp only [PartM.val] at HK1 ⊢)
    go_end0
    exact ⟨rfl, unhide HK1⟩
  · have HN := hide hN2
    clear hb1 hr hN1 hN2 hlm hc2 HP key
    go_wp2_with (at_builtin; go_must (refine wpList_part_n (base := base) (p := lo) (by rfl) _ _ (by rfl) (by rfl) (some ⟨g, off + 1, none⟩) (L.drop 1) (m - 1) (c - 1) (unhide HLM) (by rfl) (unhide HLO1) (unhide HSZ) (unhide HN) (by have := (unhide HD).2; omega) ?_); intro q w3 g1 g2 g3 g4; obtain ⟨k1, k2, k3⟩ := (unhide HK) w3 q g1 g2 g3 g4; have HK1 := hide k1; clear g1 g2 g3 g4 k1; obtain ⟨qa, qc, qx⟩ := q; simp only [PartM.val] at HK1 ⊢)
    go_end0
    exact ⟨rfl, unhide HK1⟩

set_option maxHeartbeats 2000000 in
theorem put_any (h : PileAt w base b p) (hl : p.xs.length ≤ 100000) (i : Nat) (hi : i ≤ p.xs.length) (x : Int) : Calls Try.prog 71 #[.pointer (some ⟨b, 0, none⟩), .int .i64 i, .int .i64 x] w fun e w' => e = .returned (.tuple #[]) ∧ UpdP w w' base b p (p.xs.take i ++ x :: p.xs.drop i) := by
  have HP := hide (parts_any h i (by omega))
  have HLO := hide (h.part.low i (by omega))
  have HH := hide h
  have HD : Hid (((lowP p i).xs ++ [x]) ++ p.xs.drop i = p.xs.take i ++ x :: p.xs.drop i ∧ (lowP p i).xs.length + 1 + (p.xs.drop i).length ≤ 200000 ∧ (lowP p i).cap < (lowP p i).xs.length + 1) := hide ⟨by simp [lowP], by simp [lowP]; omega, by simp [lowP]; omega⟩
  generalize lowP p i = lo at *
  generalize p.xs.drop i = L at *
  clear h hl hi
  go_enter Try.func71, Try.ntmps71
  go_wp2_with fail
  refine (unhide HP).mono ?_
  rintro e w1 ⟨⟨v, rfl, hr⟩, hb1⟩
  obtain ⟨a, c, rfl, hN, hc1, hc2⟩ := hr.below hb1
  have HB1 := hide hb1
  have key : ∀ (w3 w4 : World) (q q2 : PartM), PartAt w3 base q → q.own = some (w1.heap.size + 1) → Below (w1.alloc (.cells #[.int .i64 x] 3)).heap.size (w1.alloc (.cells #[.int .i64 x] 3)) w3 → q.xs = lo.xs ++ [x] → PartAt w4 base q2 → q2.xs = q.xs ++ L → w3.grownBy w4 q.own → (q2.own = q.own ∨ q2.own = some w3.heap.size) → UpdP w (w4.setCell ⟨b, 0, none⟩ q2.val) base b p (p.xs.take i ++ x :: L) ∧ w4.cell? ⟨b, 0, none⟩ = some p.val ∧ w4.frozen? ⟨b, 0, none⟩ = false := by
    intro w3 w4 q q2 h1 ho h2 h3 h4 h5 h6 h7
    have B3 : Below w1.heap.size w1 w3 := ((Below.refl _ w1).alloc (Nat.le_refl _) _).trans (h2.mono (by simp))
    have hs1 := hb1.size
    have hs3 := B3.size
    have M : Mod (fun k => p.own = some k) w w4 := ((Mod.of_below hb1).trans (Mod.of_below B3)).then (Mod.grown (F := fun k => q.own = some k) h6 (fun k hk => hk)) (fun k hk => .inr (by rw [ho] at hk; simp at hk; omega))
    refine ⟨(unhide HH).done M h4 (by rw [h5, h3]; exact (unhide HD).1) (fun k hk => .inr ?_), (unhide HH).cellM M⟩
    rcases h7 with e | e
    · rw [e, ho] at hk; simp at hk; omega
    · rw [e] at hk; simp at hk; omega
  have HK := hide key
  have HSZ : Hid (base ≤ w1.heap.size) := hide (by have h1 := (unhide HH).lo; have h2 := (unhide HH).lt; have h3 := hb1.size; omega)
  have HLO1 := hide ((unhide HLO).below (hb1.trans (((Below.refl _ w1).alloc (Nat.le_refl _) (.cells #[.int .i64 x] 3)).mono hb1.size)))
  have HNN := hide hN
  clear hb1 hr hN hc1 hc2 HP key HLO
  go_wp2_with (first
    | (have _x := unhide HQ1; clear _x; at_builtin; go_must (refine wpList_part_n (base := base) (p := q) (by rfl) _ _ (by rfl) (by rfl) a L L.length c rfl (by rfl) (unhide HQ1) (by have := unhide HSZ; have := (unhide HQ3).size; simp at this; omega) ((unhide HNN).below (((Below.refl _ w1).alloc (Nat.le_refl _) _).trans ((unhide HQ3).mono (by simp)))) (by have := (unhide HD).2; rw [unhide HQ2]; simp; omega) ?_); intro q2 w4 g1 g2 g3 g4; obtain ⟨k1, k2, k3⟩ := (unhide HK) w3 w4 q q2 (unhide HQ1) (by have := unhide HQ4; simpa using this) (unhide HQ3) (unhide HQ2) g1 g2 g3 g4; have HK1 := hide k1; clear g1 g2 g3 g4 k1; obtain ⟨qa, qc, qx⟩ := q2; simp only [PartM.val] at HK1 ⊢)
    | (at_builtin; go_must (refine wpList_part_full (base := base) (p := lo) (by rfl) (.tmp 15) _ (by rfl) (by rfl) (some ⟨w1.heap.size, 0, none⟩) [x] 1 1 rfl (by rfl) (unhide HLO1) (by have := unhide HSZ; simp; omega) (one_num w1 x) (by have := (unhide HD).2; simp; omega) (by exact (unhide HD).2.2) ?_); intro q w3 g1 g2 g3 g4; have HQ1 := hide g1; have HQ2 := hide g2; have HQ3 := hide g3; have HQ4 := hide g4; clear g1 g2 g3 g4))
  go_end0
  exact ⟨rfl, unhide HK1⟩
end
end Go.Proofs.Ytaiejlgoldmjdaa
