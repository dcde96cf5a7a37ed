/-
  add: code points behind a part, their line ends made one.
-/
import Derived.Test.YtlhebbhpcepfhaaPb
namespace Go.Proofs.Ytlhebbhpcepfhaa
open Go.RowKit

theorem PartM.val_mk (a : Option Addr) (cap : Nat) (xs : List Int) : PartM.val ⟨a, cap, xs⟩ = .slice a xs.length cap := rfl

theorem part_grow {w : World} {base : Nat} {p : PartM} (hp : PartAt w base p) (hb : base ≤ w.heap.size) (n : Nat) (hm : p.xs.length + n ≤ 35184372088832) :
    Calls Try.prog 43 #[p.val, .int .i64 n] w fun e w' => ∃ p', e = .returned p'.val ∧ PartAt w' base p' ∧ p'.xs = p.xs ∧ p.xs.length + n ≤ p'.cap ∧ Below w.heap.size w w' ∧ (p'.own = p.own ∨ p'.own = some w.heap.size) := by
  have hlc := hp.len
  have hmo := hp.most
  by_cases hroom : p.xs.length + n ≤ p.cap
  · refine (grow_room w p.a p.xs.length p.cap n hlc hmo hroom).mono ?_
    rintro e w' ⟨rfl, rfl⟩
    exact ⟨p, rfl, hp, rfl, hroom, Below.refl _ _, .inl rfl⟩
  · obtain ⟨cs, hcl, hnil, hcs, hrd⟩ : ∃ cs : List Value, cs.length = p.cap ∧ (p.a = none → p.cap = 0) ∧ (∀ ad, p.a = some ad → ∀ j v, cs[j]? = some v → w.cell? (ad.add j) = some v) ∧ ∀ j x, p.xs[j]? = some x → cs[j]? = some (Value.int .i32 x) := by
      by_cases hz : p.cap = 0
      · refine ⟨[], by simp [hz], fun _ => hz, fun _ _ j v hv => by simp at hv, fun j x hx => ?_⟩
        have := (List.getElem?_eq_some_iff.1 hx).1
        omega
      · obtain ⟨g, off, cur, ha, hbb, hg, hsz, hc⟩ := hp.cellsAll (by omega)
        refine ⟨(cur.toList.drop off).take p.cap, by simp; omega, fun e => (by rw [ha] at e; cases e), fun ad had j v hv => ?_, fun j x hx => ?_⟩
        · rw [ha] at had
          cases had
          rw [add_at, cell_of_row w g (off + j) cur 21 (0, 0) hg]
          rw [List.getElem?_take] at hv
          split at hv
          · rw [List.getElem?_drop] at hv
            simpa using hv
          · cases hv
        · have := (List.getElem?_eq_some_iff.1 hx).1
          rw [List.getElem?_take, if_pos (by omega), List.getElem?_drop]
          have := hc j x hx
          simpa using this
    refine (grow_grow w p.a p.xs.length p.cap n cs hlc (by omega) hm hcl hnil hcs).mono ?_
    rintro e w' ⟨rfl, rfl⟩
    have hge := grownCap_ge w (p.xs.length + n) p.cap 21
    have hle := grownCap_le_maxLen w (p.xs.length + n) p.cap 21 (by unfold maxLen; omega)
    refine ⟨⟨some ⟨w.heap.size, 0, none⟩, grownCap w (p.xs.length + n) p.cap 21, p.xs⟩, rfl, ⟨by simp only; omega, hle, .inr ⟨w.heap.size, 0, _, rfl, hb, heap_alloc_new w.drew _, ?_, ?_⟩⟩, rfl, hge, (Below.refl _ w).drew.alloc (by simp) _, .inr ?_⟩
    · simp only [Array.size_append, List.size_toArray, size_zeroCells, hcl]
      simp [Value.cells]
      omega
    · intro j x hj
      simp only at hj
      have hlt := (List.getElem?_eq_some_iff.1 hj).1
      rw [Nat.zero_add, Array.append_assoc, Array.getElem?_append_left (by simp only [List.size_toArray]; omega)]
      simp only [List.getElem?_toArray]
      exact hrd j x hj
    · unfold PartM.own
      rw [if_neg (by simp only; omega)]
      rfl

/-- What waits of a source, and whether its last one is a 13. -/
def endsM : Bool → List Int → List Int × Bool
  | cr, [] => ([], cr)
  | cr, r :: l => (if (endM cr r).2 then (endM cr r).1 :: (endsM (r == 13) l).1 else (endsM (r == 13) l).1, (endsM (r == 13) l).2)

theorem endsM_append (cr : Bool) (l k : List Int) : endsM cr (l ++ k) = ((endsM cr l).1 ++ (endsM (endsM cr l).2 k).1, (endsM (endsM cr l).2 k).2) := by
  induction l generalizing cr with
  | nil => simp [endsM]
  | cons x l ih =>
    simp only [List.cons_append, endsM, ih]
    split <;> simp
theorem endsM_snoc (cr : Bool) (l : List Int) (r : Int) : endsM cr (l ++ [r]) = ((endsM cr l).1 ++ (if (endM (endsM cr l).2 r).2 then [(endM (endsM cr l).2 r).1] else []), r == 13) := by
  rw [endsM_append]; rfl
theorem endsM_len (cr : Bool) (l : List Int) : (endsM cr l).1.length ≤ l.length := by
  induction l generalizing cr with
  | nil => simp [endsM]
  | cons x l ih =>
    simp only [endsM, List.length_cons]
    have := ih (x == 13)
    split <;> simp <;> omega

theorem ends_to (w : World) (b : Nat) (cr : Bool) (r : Int) (h : Cr w b cr) {cc : Int} {ok : Bool} (he : endM cr r = (cc, ok)) :
    Calls Try.prog 41 #[.int .i32 r, .pointer (some ⟨b, 0, none⟩)] w fun e w' => e = .returned (.tuple #[.int .i32 cc, .bool ok]) ∧ w' = w.setCell ⟨b, 0, none⟩ (.bool (r == 13)) := by
  have := ends_any w b cr r h
  rw [he] at this
  exact this

/-- While code points are added. -/
structure Adding (w1 wx : World) (base bC : Nat) (p1 q : PartM) (cr : Bool) (l : List Int) (i : Nat) : Prop where
  part : PartAt wx base q
  xs : q.xs = p1.xs ++ (endsM cr (l.take i)).1
  mem : Cr wx bC (endsM cr (l.take i)).2
  mod : Mod (fun k => p1.own = some k ∨ k = bC) w1 wx
  own : q.own = p1.own
  cap : q.cap = p1.cap

theorem cr_own {w : World} {base b : Nat} {cr : Bool} {p : PartM} (hp : PartAt w base p) (hc : Cr w b cr) : p.own ≠ some b := by
  intro e
  obtain ⟨_, _, cur, h⟩ := hp.own_lt e
  unfold Cr at hc
  rw [h] at hc
  cases hc

theorem take_next {l : List Int} {i : Nat} (h : i < l.length) : l.take (i + 1) = l.take i ++ [l[i]] := by
  rw [List.take_succ_eq_append_getElem h]

theorem Adding.skip {w1 wx : World} {base bC : Nat} {p1 q : PartM} {cr : Bool} {l : List Int} {i : Nat} (h : Adding w1 wx base bC p1 q cr l i) (hi : i < l.length) {cc : Int} (he : endM (endsM cr (l.take i)).2 l[i] = (cc, false)) :
    Adding w1 (wx.setCell ⟨bC, 0, none⟩ (.bool (l[i] == 13))) base bC p1 q cr l (i + 1) := by
  have hne := cr_own h.part h.mem
  have e := endsM_snoc cr (l.take i) l[i]
  rw [← take_next hi, he] at e
  refine ⟨h.part.kept fun k hk => Below.heap_setCell _ _ _ _ (fun e => hne (by rw [hk, e])), by rw [e, h.xs]; simp, by rw [e]; exact h.mem.set _, h.mod.trans (Mod.setCell _ _ _ (.inr rfl)), h.own, h.cap⟩

theorem Adding.one {w1 wx w3 : World} {base bC : Nat} {p1 q q' : PartM} {cr : Bool} {l : List Int} {i : Nat} (h : Adding w1 wx base bC p1 q cr l i) (hi : i < l.length) {cc : Int} (he : endM (endsM cr (l.take i)).2 l[i] = (cc, true)) (hroom : p1.xs.length + l.length ≤ p1.cap)
    (hq : PartAt w3 base q') (hx : q'.xs = q.xs ++ [cc]) (hg : ((wx.setCell ⟨bC, 0, none⟩ (.bool (l[i] == 13))).alloc (.cells #[.int .i32 cc] 21)).grownBy w3 q.own)
    (hr : q.xs.length + 1 ≤ q.cap → q'.own = q.own ∧ q'.cap = q.cap) : Adding w1 w3 base bC p1 q' cr l (i + 1) := by
  have hne := cr_own h.part h.mem
  have e := endsM_snoc cr (l.take i) l[i]
  rw [← take_next hi, he] at e
  have hl := endsM_len cr (l.take i)
  rw [List.length_take] at hl
  obtain ⟨r1, r2⟩ := hr (by rw [h.xs, h.cap, List.length_append]; omega)
  have hm : Mod (fun k => p1.own = some k ∨ k = bC) wx ((wx.setCell ⟨bC, 0, none⟩ (.bool (l[i] == 13))).alloc (.cells #[.int .i32 cc] 21)) :=
    (Mod.setCell _ _ _ (.inr rfl)).trans (Mod.of_below ((Below.refl _ _).alloc (Nat.le_refl _) _))
  refine ⟨hq, by rw [hx, e, h.xs]; simp, ?_, (h.mod.trans hm).trans (Mod.grown hg (fun k hk => .inl (by rw [← h.own]; exact hk))), r1.trans h.own, r2.trans h.cap⟩
  rw [e]
  unfold Cr
  have hb := h.mem.lt
  rw [hg.block bC (by simp; omega) (fun e => hne e.symm), Below.heap_alloc _ _ _ (by simpa using hb)]
  exact h.mem.set _

set_option maxHeartbeats 2000000 in
theorem add_any {w : World} {base bC : Nat} {p : PartM} {cr : Bool} (hp : PartAt w base p) (hb : base ≤ w.heap.size) (hc : Cr w bC cr) (a : Option Addr) (l : List Int) (c : Nat) (hl : RunesIn w a l)
    (hF : ∀ b off, l ≠ [] → a = some ⟨b, off, none⟩ → p.own ≠ some b ∧ b ≠ bC) (hm : p.xs.length + l.length ≤ 35184372088832) :
    Calls Try.prog 38 #[p.val, .slice a l.length c, .func (.func 41) #[] #[.pointer (some ⟨bC, 0, none⟩)]] w fun e w' =>
      ∃ p', e = .returned p'.val ∧ PartAt w' base p' ∧ p'.xs = p.xs ++ (endsM cr l).1 ∧ Cr w' bC (endsM cr l).2 ∧ Mod (fun k => p.own = some k ∨ k = bC) w w' ∧ ∀ k, p'.own = some k → p.own = some k ∨ w.heap.size ≤ k := by
  have HP := hide hp
  have HC := hide hc
  have HL := hide hl
  have HF := hide hF
  have HM := hide hm
  have HB := hide hb
  have hlen : (l.length : Int) ≤ 35184372088832 := by omega
  clear hp hc hl hF hm hb
  go_enter Try.func38, Try.ntmps38
  go_wp2_with (go_at_call 43; go_must (refine (part_grow (unhide HP) (unhide HB) l.length (unhide HM)).mono ?_); rintro e w1 ⟨p1, rfl, h1, h2, h3, h4, h5⟩; have H1 := hide h1; have H2 := hide h2; have H3 := hide h3; have H4 := hide h4; have H5 := hide h5; clear h1 h2 h3 h4 h5)
  go_loopg [0, 17] l.length (fun gx s0 s17 wx => ∃ (i : Nat) (q : PartM), s17 = .int .i64 i ∧ s0 = q.val ∧ i + gx = l.length ∧ Adding w1 wx base bC p1 q cr l i)
  case atStart => exact ⟨0, p1, rfl, rfl, by omega, ⟨unhide H1, by simp [endsM], by simpa [endsM, Cr] using ((unhide H4).block bC (unhide HC).lt).trans (unhide HC), Mod.refl _ _, rfl, rfl⟩⟩
  case round =>
    obtain ⟨i, q, rfl, rfl, hig, had⟩ := hrel
    have HA := hide had
    have HG := hide hig
    by_cases hil : i < l.length
    · have hiz : (i : Int) < (l.length : Int) := by omega
      have hw1 : IntKind.i64.wrap ((i : Int) + 1) = (i : Int) + 1 := by rw [IntKind.wrap_i64]; omega
      have hrd : RunesIn wr a l := ((unhide HL).below (unhide H4)).mod had.mod (by
        intro b off ha
        obtain ⟨b', off', ha', hc'⟩ := (unhide HL) i l[i] (List.getElem?_eq_getElem hil)
        have hbl := World.block_lt_of_cell? w _ hc'
        rw [ha] at ha'
        cases ha'
        have := (unhide HF) b off (fun e => by rw [e] at hil; simp at hil) ha
        rintro (h | h)
        · rcases unhide H5 with h5 | h5
          · exact this.1 (h5 ▸ h)
          · rw [h5] at h; cases h; simp at hbl
        · exact this.2 h)
      obtain ⟨b, off, ha, hcell⟩ := hrd i l[i] (List.getElem?_eq_getElem hil)
      obtain ⟨cc, ok, hco⟩ : ∃ cc ok, endM (endsM cr (l.take i)).2 l[i] = (cc, ok) := ⟨_, _, rfl⟩
      have hE := ends_to wr bC _ l[i] had.mem hco
      have HI := hide hil
      have HPQ := hide had.part
      have hne := cr_own had.part had.mem
      have HPS := hide (had.part.kept (w' := wr.setCell ⟨bC, 0, none⟩ (.bool (l[i] == 13))) fun k hk => Below.heap_setCell _ _ _ _ (fun e => hne (by rw [hk, e])))
      have HQL : Hid (q.xs.length + 1 ≤ 35184372088832 ∧ p1.xs.length + l.length ≤ p1.cap ∧ base ≤ wr.heap.size) := hide (by
        have := unhide HM
        have h2 := unhide H2
        have h3 := unhide H3
        have hl := endsM_len cr (l.take i)
        rw [List.length_take] at hl
        rw [had.xs, List.length_append, h2]
        refine ⟨by omega, by omega, Nat.le_trans (unhide HB) (Nat.le_trans (unhide H4).size had.mod.size)⟩)
      have HX := hide had.xs
      clear hrd hig hne HL
      subst ha
      cases ok
      case true =>
        have HE2 := hide hE
        have HON2 : Hid (∀ w3 q', PartAt w3 base q' → q'.xs = q.xs ++ [cc] → ((wr.setCell ⟨bC, 0, none⟩ (.bool (l[i] == 13))).alloc (.cells #[.int .i32 cc] 21)).grownBy w3 q.own → (q.xs.length + 1 ≤ q.cap → q'.own = q.own ∧ q'.cap = q.cap) → Adding w1 w3 base bC p1 q' cr l (i + 1)) :=
          hide (fun w3 q' h1 h2 h3 h4 => had.one hil hco (unhide HQL).2.1 h1 h2 h3 h4)
        clear hE had hco
        generalize l[i] = r at hcell HE2 HPS HON2
        go_wp2_with (first
          | (go_at_call 41; go_must (refine (unhide HE2).mono ?_); rintro e w2 ⟨rfl, rfl⟩)
          | (at_builtin; go_must (refine wpList_part_append (base := base) (p := q) (by rfl) _ _ (by rfl) (by rfl) (some ⟨wr.heap.size, 0, none⟩) [cc] 1 (by rfl) (by exact (unhide HPS).below ((Below.refl _ _).alloc (Nat.le_refl _) _)) (by simp; have := (unhide HQL).2.2; omega) (by have := one_rune (wr.setCell ⟨bC, 0, none⟩ (.bool (r == 13))) cc; simpa using this) (by simpa using (unhide HQL).1) ?_); intro q' w3 g1 g2 g3 g4 g5; have HN := hide ((unhide HON2) w3 q' g1 g2 g3 g5); clear g1 g2 g3 g4 g5))
        go_roundg (gk - 1)
        case measure => have := unhide HG; omega
        case rel => exact ⟨i + 1, q', by go_num, rfl, by have := unhide HG; have := unhide HI; omega, unhide HN⟩
      case false =>
        have HE2 := hide hE
        have HSK2 := hide (had.skip hil hco)
        clear hE had hco
        generalize l[i] = r at hcell HE2 HPS HSK2
        go_wp2_with (go_at_call 41; go_must (refine (unhide HE2).mono ?_); rintro e w2 ⟨rfl, rfl⟩)
        go_roundg (gk - 1)
        case measure => have := unhide HG; omega
        case rel => exact ⟨i + 1, q, by go_num, rfl, by have := unhide HG; have := unhide HI; omega, unhide HSK2⟩
    · have hiz : ¬ (i : Int) < (l.length : Int) := by omega
      obtain rfl : i = l.length := by omega
      have HFIN : Hid (∃ p', q.val = p'.val ∧ PartAt wr base p' ∧ p'.xs = p.xs ++ (endsM cr l).1 ∧ Cr wr bC (endsM cr l).2 ∧ Mod (fun k => p.own = some k ∨ k = bC) w wr ∧ ∀ k, p'.own = some k → p.own = some k ∨ w.heap.size ≤ k) := hide (by
        have hx := had.xs
        have hm := had.mem
        rw [List.take_length] at hx hm
        refine ⟨q, rfl, had.part, by rw [hx, unhide H2], hm, (Mod.of_below (unhide H4)).then had.mod ?_, ?_⟩
        · rintro k (h | h)
          · rcases unhide H5 with h5 | h5
            · exact .inl (.inl (h5 ▸ h))
            · rw [h5] at h; cases h; exact .inr (Nat.le_refl _)
          · exact .inl (.inr h)
        · intro k hk
          rw [had.own] at hk
          rcases unhide H5 with h5 | h5
          · exact .inl (h5 ▸ hk)
          · rw [h5] at hk; cases hk; exact .inr (Nat.le_refl _))
      clear had hig hil
      go_wp2
      go_ret
      obtain ⟨p', e, r⟩ := unhide HFIN
      exact ⟨p', congrArg Ending.returned e, r⟩
end Go.Proofs.Ytlhebbhpcepfhaa
