/-
   
-/
import Derived.Test.YtkakncngkmoegaaGreatTZap
import Derived.Test.YtkakncngkmoegaaGreatSZaf
import Derived.Test.YtkakncngkmoegaaGreatSZah
namespace Go.Proofs.YtkakncngkmoegaaGreat
open Go.RowKit

structure RstAt (w : World) (base bW bR : Nat) (p : PartM) : Prop where
  box : w.heap[bW]? = some (.cells #[.pointer (some ⟨bR, 0, none⟩), p.val] 101 (0, 0))
  part : PartAt w base p
  lo : base ≤ bW
def footW (bW : Nat) (p : PartM) (k : Nat) : Prop := k = bW ∨ p.own = some k

section
variable {w w' w1 : World} {base bW bR : Nat} {p p' : PartM} {F G : Nat → Prop} {L : List Int}
theorem RstAt.cells (h : RstAt w base bW bR p) : w.cell? ⟨bW, 0, none⟩ = some (.pointer (some ⟨bR, 0, none⟩)) ∧ w.cell? ⟨bW, 1, none⟩ = some p.val ∧ ∀ j, w.frozen? ⟨bW, j, none⟩ = false := by
  have hb := h.box
  exact ⟨by simp [World.cell?, hb], by simp [World.cell?, hb], fun j => by simp [World.frozen?, hb]⟩
theorem RstAt.lt (h : RstAt w base bW bR p) : bW < w.heap.size := lt_of_block h.box
theorem RstAt.ne (h : RstAt w base bW bR p) : p.own ≠ some bW := by
  intro e
  obtain ⟨_, _, cu, hc⟩ := h.part.own_lt e
  rw [h.box] at hc
  cases hc
theorem RstAt.foot_lt (h : RstAt w base bW bR p) {k : Nat} (hk : footW bW p k) : base ≤ k ∧ k < w.heap.size := by
  rcases hk with rfl | hk
  · exact ⟨h.lo, h.lt⟩
  · have := h.part.own_lt hk
    exact ⟨this.1, this.2.1⟩
theorem RstAt.mod (h : RstAt w base bW bR p) (hm : Mod G w w') (hG : ∀ k, footW bW p k → ¬ G k) : RstAt w' base bW bR p :=
  ⟨(hm.block bW h.lt (hG bW (.inl rfl))).trans h.box, h.part.mod hm (fun k hk => hG k (.inr hk)), h.lo⟩
theorem RstAt.below (h : RstAt w base bW bR p) (hb : Below w.heap.size w w') : RstAt w' base bW bR p := h.mod (Mod.of_below (F := fun _ => False) hb) (fun _ _ e => e)
theorem RstAt.set (h : RstAt w base bW bR p) (hm : Mod (fun k => p.own = some k) w w1) (hp : PartAt w1 base p') : RstAt (w1.setCell ⟨bW, 1, none⟩ p'.val) base bW bR p' ∧ Mod (footW bW p) w (w1.setCell ⟨bW, 1, none⟩ p'.val) := by
  have hb1 : w1.heap[bW]? = _ := (hm.block bW h.lt h.ne).trans h.box
  refine ⟨⟨?_, hp.kept (fun k hk => setCell_far _ _ _ (fun e => ?_)), h.lo⟩, (hm.mono (fun _ _ hk => .inr hk)).trans (Mod.setCell _ _ _ (.inl rfl))⟩
  · have := heap_setCell_same w1 bW 1 #[.pointer (some ⟨bR, 0, none⟩), p.val] 101 p'.val hb1
    simpa using this
  · simp only at e
    subst e
    obtain ⟨_, _, cu, hc⟩ := hp.own_lt hk
    rw [hb1] at hc
    cases hc

def RstS (w : World) (base bW bR : Nat) (L : List Int) (F : Nat → Prop) : Prop := ∃ p, RstAt w base bW bR p ∧ p.xs = L ∧ ∀ k, F k ↔ footW bW p k
def UpdW (F : Nat → Prop) (w w' : World) (base bW bR : Nat) (L : List Int) : Prop := ∃ F', RstS w' base bW bR L F' ∧ Mod F w w' ∧ ∀ k, F' k → F k ∨ w.heap.size ≤ k
theorem RstS.lt (h : RstS w base bW bR L F) {k : Nat} (hk : F k) : base ≤ k ∧ k < w.heap.size := by
  obtain ⟨p, h, _, hF⟩ := h
  exact h.foot_lt ((hF k).1 hk)
theorem RstS.mod (h : RstS w base bW bR L F) (hm : Mod G w w') (hG : ∀ k, F k → ¬ G k) : RstS w' base bW bR L F := by
  obtain ⟨p, h, e, hF⟩ := h
  exact ⟨p, h.mod hm (fun k hk => hG k ((hF k).2 hk)), e, hF⟩
theorem RstS.below (h : RstS w base bW bR L F) (hb : Below w.heap.size w w') : RstS w' base bW bR L F := h.mod (Mod.of_below (F := fun _ => False) hb) (fun _ _ e => e)
theorem RstS.upd (h : RstS w base bW bR L F) (hb : Below w.heap.size w w') : UpdW F w w' base bW bR L := ⟨F, h.below hb, Mod.of_below hb, fun _ hk => .inl hk⟩
theorem UpdW.after (hb : Below w.heap.size w w1) (h : UpdW F w1 w' base bW bR L) : UpdW F w w' base bW bR L := by
  obtain ⟨F', h1, h2, h3⟩ := h
  exact ⟨F', h1, (Mod.of_below hb).trans h2, fun k hk => (h3 k hk).imp id (fun h => Nat.le_trans hb.size h)⟩
theorem UpdW.then (h : UpdW F w w1 base bW bR L) (hb : Below w1.heap.size w1 w') : UpdW F w w' base bW bR L := by
  obtain ⟨F', h1, h2, h3⟩ := h
  exact ⟨F', h1.below hb, h2.trans (Mod.of_below hb), h3⟩
theorem RstAt.done {q : PartM} (h : RstAt w base bW bR p) (hF : ∀ k, F k ↔ footW bW p k) (hm : Mod (fun k => p.own = some k) w w1) (hq : PartAt w1 base q) (hx : q.xs = L) (ho : ∀ k, q.own = some k → p.own = some k ∨ w.heap.size ≤ k) :
    UpdW F w (w1.setCell ⟨bW, 1, none⟩ q.val) base bW bR L := by
  obtain ⟨R1, R2⟩ := h.set hm hq
  refine ⟨footW bW q, ⟨q, R1, hx, fun _ => Iff.rfl⟩, R2.mono (fun k _ hk => (hF k).2 hk), ?_⟩
  rintro k (rfl | hk)
  · exact .inl ((hF _).2 (.inl rfl))
  · exact (ho k hk).imp (fun e => (hF k).2 (.inr e)) id
theorem RstAt.cellM (h : RstAt w base bW bR p) (hm : Mod (fun k => p.own = some k) w w1) : w1.cell? ⟨bW, 1, none⟩ = some p.val ∧ w1.frozen? ⟨bW, 1, none⟩ = false := by
  have e : w1.heap[bW]? = _ := (hm.block bW h.lt h.ne).trans h.box
  exact ⟨by simp [World.cell?, e], by simp [World.frozen?, e]⟩
end

/-- A stack of the document's beside its arena. -/
structure LiveR (w : World) (base bW bR : Nat) (ks : List Key) (L : List Int) : Prop where
  ar : ∃ F, RfK w base bR ks F
  st : ∃ F, RstS w base bW bR L F
theorem LiveR.below {w w' : World} {base bW bR : Nat} {ks : List Key} {L : List Int} (h : LiveR w base bW bR ks L) (hb : Below w.heap.size w w') : LiveR w' base bW bR ks L := by
  obtain ⟨⟨F, h1⟩, ⟨G, h2⟩⟩ := h
  exact ⟨⟨F, h1.below hb⟩, ⟨G, h2.below hb⟩⟩
theorem RfK.most {w : World} {base bR : Nat} {ks : List Key} {F : Nat → Prop} (h : RfK w base bR ks F) : ks.length ≤ 32768 := by
  obtain ⟨os, ⟨g, cap, rs, h, e, _⟩, rfl⟩ := h
  rw [List.length_map, ← e, osOf_len]
  exact h.most
theorem LiveR.few {w : World} {base bW bR : Nat} {ks : List Key} {L : List Int} (h : LiveR w base bW bR ks L) (hg : Good ks L) : L.length ≤ 32768 := by
  obtain ⟨⟨FA, ha⟩, _⟩ := h
  exact Nat.le_trans hg.len ha.most

/-- A node of the document's arena in memory: its ten cells. -/
theorem RfK.open {w : World} {base bR : Nat} {ks : List Key} {F : Nat → Prop} (h : RfK w base bR ks F) {i : Nat} {q : Key} (hq : ks[i]? = some q) :
    ∃ g cap av kv, ∃ (r : OneM) (aa : Option Addr) (an ac : Nat) (ka : Option Addr) (kn kc : Nat), av = .slice aa an ac ∧ kv = .slice ka kn kc ∧ w.cell? ⟨bR, 0, none⟩ = some (.slice (some ⟨g, 0, none⟩) ks.length cap) ∧ i < ks.length ∧
      w.cell? ⟨g, i * 10, none⟩ = some (.int .i64 q.kind) ∧ w.cell? ⟨g, i * 10 + 1, none⟩ = some (.int .i64 q.space) ∧ w.cell? ⟨g, i * 10 + 2, none⟩ = some (.string q.name) ∧ w.cell? ⟨g, i * 10 + 3, none⟩ = some av ∧ w.cell? ⟨g, i * 10 + 4, none⟩ = some (.string r.data) ∧
      w.cell? ⟨g, i * 10 + 5, none⟩ = some (.string r.system) ∧ w.cell? ⟨g, i * 10 + 6, none⟩ = some (.int .i64 r.inner) ∧ w.cell? ⟨g, i * 10 + 7, none⟩ = some (.int .i64 r.host) ∧ w.cell? ⟨g, i * 10 + 8, none⟩ = some (.int .i64 r.up) ∧ w.cell? ⟨g, i * 10 + 9, none⟩ = some kv := by
  obtain ⟨os, ⟨g, cap, rs, h, rfl, _⟩, rfl⟩ := h
  have hlt := (List.getElem?_eq_some_iff.1 hq).1
  rw [List.length_map, osOf_len] at hlt
  obtain ⟨r, hr⟩ : ∃ r, rs[i]? = some r := ⟨_, List.getElem?_eq_getElem hlt⟩
  have hro := osOf_get hr
  rw [List.getElem?_map, hro] at hq
  cases hq
  obtain ⟨c0, c1, c2, c3, c4, c5, c6, c7, c8, c9⟩ := h.cells10 hr
  obtain ⟨aa, ac, ea, _⟩ := h.attrs i r hr
  obtain ⟨ka, kc, ek, _⟩ := h.kids i r hr
  refine ⟨g, cap, r.av, r.kv, r.o, aa, _, ac, ka, _, kc, ea, ek, ?_, ?_, c0, c1, c2, c3, c4, c5, c6, c7, c8, c9⟩
  · rw [List.length_map, osOf_len]; exact h.cR
  · rw [List.length_map, osOf_len]; exact hlt

section
variable {w : World} {base bW bR : Nat} {ks : List Key} {L : List Int} {F FA : Nat → Prop}
theorem rIs_any (h : RfK w base bR ks F) (id : Int) : Calls Tryz.prog 73 #[.pointer (some ⟨bR, 0, none⟩), .int .i64 id] w fun e w' => e = .returned (.bool (keyAt ks id).isSome) ∧ w = w' := by
  obtain ⟨os, ⟨g, cap, rs, h, rfl, _⟩, rfl⟩ := h
  have e : (keyAt ((osOf rs).map keyO) id).isSome = hasO (osOf rs) id := by
    unfold keyAt hasO
    by_cases h0 : 0 ≤ id
    · rw [if_pos h0]
      by_cases h1 : id < ((osOf rs).length : Int)
      · rw [List.getElem?_eq_getElem (by rw [List.length_map]; omega)]
        simp [h0, h1]
      · rw [List.getElem?_eq_none (by rw [List.length_map]; omega)]
        simp [h1]
    · rw [if_neg h0]
      simp [h0]
  rw [e]
  exact refIs_any h id

set_option maxHeartbeats 1000000 in
theorem rElement_any (h : RfK w base bR ks F) (id : Int) : Calls Tryz.prog 76 #[.pointer (some ⟨bR, 0, none⟩), .int .i64 id] w fun e w' => e = .returned (.bool (elOf ks id).isSome) ∧ w = w' := by
  have HI := hide (rIs_any h id)
  have hm := h.most
  cases hk : keyAt ks id with
  | none =>
    rw [hk] at HI
    rw [elOf_none hk]
    clear h hk hm
    go_enter Tryz.func76, Tryz.ntmps76
    go_wp2_with (go_at_call 73; refine (unhide HI).mono ?_; rintro e w1 ⟨rfl, rfl⟩)
    go_ret
    exact ⟨rfl, rfl⟩
  | some q =>
    rw [hk] at HI
    obtain ⟨i, rfl, hi⟩ := keyAt_some hk
    obtain ⟨g, cap, av, kv, r, aa, an, ac, ka, kn, kc, _, _, cR, hlt, c0, _⟩ := h.open hi
    have e0 : (elOf ks (i : Int)).isSome = (q.kind == 1) := by
      rw [elOf_key hk]
      by_cases h1 : q.kind = 1
      · rw [if_pos h1, h1]; rfl
      · rw [if_neg h1]
        have : (q.kind == 1) = false := by simpa using h1
        rw [this]
        rfl
    rw [e0]
    have hltz : (i : Int) < (ks.length : Int) := by omega
    have hmz : (ks.length : Int) ≤ 32768 := by omega
    generalize ks.length = n at *
    obtain ⟨qk, qs, qn⟩ := q
    simp only at *
    clear h hk hm hi e0
    go_enter Tryz.func76, Tryz.ntmps76
    go_wp2_with (go_at_call 73; refine (unhide HI).mono ?_; rintro e w1 ⟨rfl, rfl⟩)
    go_ret
    exact ⟨rfl, rfl⟩

/-- What both questions read of the stack and of a node. -/
theorem LiveR.look (h : LiveR w base bW bR ks L) {id : Int} {c : Cal} (hc : elOf ks id = some c) : ∃ (i g cap : Nat), id = (i : Int) ∧ w.cell? ⟨bW, 0, none⟩ = some (.pointer (some ⟨bR, 0, none⟩)) ∧ w.cell? ⟨bR, 0, none⟩ = some (.slice (some ⟨g, 0, none⟩) ks.length cap) ∧ i < ks.length ∧ ks.length ≤ 32768 ∧
    w.cell? ⟨g, i * 10 + 1, none⟩ = some (.int .i64 c.space) ∧ w.cell? ⟨g, i * 10 + 2, none⟩ = some (.string c.name) := by
  obtain ⟨⟨FA, ha⟩, F, p, hs, _, _⟩ := h
  cases hk : keyAt ks id with
  | none => rw [elOf_none hk] at hc; cases hc
  | some q =>
    have e := elOf_key hk
    rw [hc] at e
    split at e
    · cases e
      obtain ⟨i, rfl, hi⟩ := keyAt_some hk
      obtain ⟨g, cap, av, kv, r, aa, an, ac, ka, kn, kc, _, _, cR, hlt, c0, c1, c2, _⟩ := ha.open hi
      exact ⟨i, g, cap, rfl, hs.cells.1, cR, hlt, ha.most, c1, c2⟩
    · cases e

set_option maxHeartbeats 1000000 in
theorem rFind_any (h : RstS w base bW bR L F) (hl : L.length ≤ 32768) (hn : L.Nodup) (x : Int) : Calls Tryz.prog 77 #[.pointer (some ⟨bW, 0, none⟩), .int .i64 x] w fun e w' => e = .returned (.int .i64 (findM L x)) ∧ w = w' := by
  obtain ⟨p, h, rfl, _⟩ := h
  obtain ⟨c0, c1, _⟩ := h.cells
  have HP : Hid (NumsIn w p.a p.xs) := hide h.part.nums
  unfold PartM.val at c1
  have HN := hide hn
  have hz : (p.xs.length : Int) ≤ 32768 := by omega
  obtain ⟨pa, pc, px⟩ := p
  simp only at *
  clear h hl hn
  go_enter Tryz.func77, Tryz.ntmps77
  go_wp2
  go_loopg [5] px.length (fun g s5 wr => s5 = .int .i64 ((g : Int) - 1) ∧ g ≤ px.length ∧ wr = w ∧ ∀ j y, g ≤ j → px[j]? = some y → y ≠ x)
  case atStart => exact ⟨rfl, Nat.le_refl _, rfl, fun j y hj hy => by have := (List.getElem?_eq_some_iff.1 hy).1; omega⟩
  case round =>
    obtain ⟨rfl, hgl, rfl, hno⟩ := hrel
    have HNO := hide hno
    clear hno
    cases gk with
    | zero =>
      go_wp2
      go_ret
      refine ⟨?_, rfl⟩
      rw [findM_out (fun hm => by obtain ⟨i, hi⟩ := List.getElem?_of_mem hm; exact (unhide HNO) i x (Nat.zero_le _) hi rfl)]
      rfl
    | succ n =>
      obtain ⟨y, hy⟩ : ∃ y, px[n]? = some y := ⟨_, List.getElem?_eq_getElem (by omega)⟩
      obtain ⟨g, off, rfl, hcell⟩ := (unhide HP) n y hy
      have e1 : (((n + 1 : Nat) : Int) - 1) = (n : Int) := by omega
      rw [e1]
      have HY := hide hy
      have hnz : (n : Int) < (px.length : Int) := by omega
      have hn0 : (0 : Int) ≤ (n : Int) := by omega
      have HGL := hide hgl
      clear hy e1 hgl
      cases hq : (y == x) with
      | true =>
        have HQ := hide hq
        go_wp2
        go_ret
        have e := eq_of_beq (unhide HQ)
        have hf : FindR px x (n : Int) := .inr ⟨n, rfl, by rw [unhide HY, e]⟩
        refine ⟨?_, rfl⟩
        rw [← hf.eq (unhide HN)]
        rfl
      | false =>
        have HQ := hide hq
        go_wp2
        go_roundg n
        case measure => omega
        case rel =>
          refine ⟨by go_num, by have := unhide HGL; omega, rfl, fun j z hj hz => ?_⟩
          by_cases e : j = n
          · subst e; rw [unhide HY] at hz; cases hz
            have := unhide HQ
            simpa using this
          · exact (unhide HNO) j z (by omega) hz
end
end Go.Proofs.YtkakncngkmoegaaGreat
/-
  The document's stack: elements pushed, popped, put in, swapped and taken out.
-/
namespace Go.Proofs.YtkakncngkmoegaaGreat
open Go.RowKit

theorem PartAt.rest {w : World} {base : Nat} {p : PartM} (h : PartAt w base p) (k : Nat) (hk : k ≤ p.xs.length) {ad : Addr} (ha : p.a = some ad) : NumsIn w (if p.cap = k then some ad else some (ad.add k)) (p.xs.drop k) := by
  have hl := h.len
  by_cases e : p.cap = k
  · rw [if_pos e]
    intro j x hj
    rw [List.drop_of_length_le (by omega)] at hj
    simp at hj
  · rw [if_neg e]
    obtain ⟨g, off, cur, ha', _⟩ := h.cellsAll (by omega)
    rw [ha] at ha'
    cases ha'
    rw [add_at]
    have hn := h.nums
    rw [ha] at hn
    exact hn.drop k
section
variable {w : World} {base bW bR : Nat} {ks : List Key} {L : List Int} {F FA : Nat → Prop}
theorem LiveR.mk' (ha : RfK w base bR ks FA) (hs : RstS w base bW bR L F) : LiveR w base bW bR ks L := ⟨⟨FA, ha⟩, ⟨F, hs⟩⟩

theorem rNew_any (hb : base ≤ w.heap.size) : Calls Tryz.prog 26 #[.pointer (some ⟨bR, 0, none⟩)] w fun e w' => ∃ bW F, e = .returned (.pointer (some ⟨bW, 0, none⟩)) ∧ RstS w' base bW bR [] F ∧ Below w.heap.size w w' ∧ ∀ k, F k → w.heap.size ≤ k := by
  have HB := hide hb
  clear hb
  go_enter Tryz.func26, Tryz.ntmps26
  go_wp2
  go_ret
  refine ⟨_, _, rfl, ⟨⟨none, 0, []⟩, ⟨heap_alloc_new w _, PartAt.nil _ _ _, unhide HB⟩, rfl, fun k => Iff.rfl⟩, below_new _ _, ?_⟩
  rintro k (rfl | hk)
  · omega
  · simp [PartM.own] at hk

set_option maxHeartbeats 2000000 in
theorem rPush_any (ha : RfK w base bR ks FA) (hs : RstS w base bW bR L F) (hg : Good ks L) (id : Int) : Calls Tryz.prog 30 #[.pointer (some ⟨bW, 0, none⟩), .int .i64 id] w fun e w' =>
    e = .returned (.int .i64 (enterE ks L id)) ∧ UpdW F w w' base bW bR (pushL ks L id) := by
  have hl := (LiveR.mk' ha hs).few hg
  have HE := hide (rElement_any ha id)
  have HF := hide (rFind_any hs hl hg.nodup id)
  have HS := hide hs
  obtain ⟨p, h, rfl, hF⟩ := hs
  obtain ⟨c0, c1, cf⟩ := h.cells
  unfold pushL enterE
  have hlt := h.lt
  have HH := hide h
  have HFF := hide hF
  have HL := hide hl
  clear ha hg h hF hl
  cases he : (elOf ks id).isSome with
  | false =>
    rw [he] at HE
    go_enter Tryz.func30, Tryz.ntmps30
    go_wp2_with (go_at_call 76; refine (unhide HE).mono ?_; rintro e w1 ⟨rfl, rfl⟩)
    go_ret
    exact ⟨rfl, by simpa using (unhide HS).upd (Below.refl _ _)⟩
  | true =>
    rw [he] at HE
    by_cases hm : id ∈ p.xs
    · obtain ⟨j, hj, _⟩ := findM_in hm
      rw [hj] at HF
      rw [if_pos rfl, if_pos hm, if_neg (by decide)]
      have hz : (0 : Int) ≤ (j : Int) := by omega
      clear he hm hj
      go_enter Tryz.func30, Tryz.ntmps30
      go_wp2_with (first | (go_at_call 76; refine (unhide HE).mono ?_; rintro e w1 ⟨rfl, rfl⟩) | (go_at_call 77; refine (unhide HF).mono ?_; rintro e w1 ⟨rfl, rfl⟩))
      go_ret
      exact ⟨rfl, (unhide HS).upd (Below.refl _ _)⟩
    · rw [findM_out hm] at HF
      rw [if_pos rfl, if_neg hm, if_pos rfl]
      have f1 := cf 1
      clear he hm cf
      have key : ∀ (w3 : World) (q : PartM), PartAt w3 base q → q.xs = p.xs ++ [id] → (w.alloc (.cells #[.int .i64 id] 3)).grownBy w3 p.own → (q.own = p.own ∨ q.own = some (w.heap.size + 1)) → UpdW F w (w3.setCell ⟨bW, 1, none⟩ q.val) base bW bR (p.xs ++ [id]) ∧ w3.cell? ⟨bW, 1, none⟩ = some p.val ∧ w3.frozen? ⟨bW, 1, none⟩ = false := by
        intro w3 q h1 h2 h3 h4
        have M : Mod (fun k => p.own = some k) w w3 := (Mod.of_below (below_new w _)).trans (Mod.grown h3 (fun k hk => hk))
        refine ⟨(unhide HH).done (unhide HFF) M h1 h2 (fun k hk => ?_), (unhide HH).cellM M⟩
        rcases h4 with e | e
        · exact .inl (e ▸ hk)
        · rw [e] at hk; simp at hk; exact .inr (by omega)
      have HK := hide key
      clear key
      go_enter Tryz.func30, Tryz.ntmps30
      go_wp2_with (first | (go_at_call 76; refine (unhide HE).mono ?_; rintro e w1 ⟨rfl, rfl⟩) | (go_at_call 77; refine (unhide HF).mono ?_; rintro e w1 ⟨rfl, rfl⟩) | (at_builtin; go_must (refine wpList_part_n (base := base) (p := p) (by rfl) _ _ (by rfl) (by rfl) (some ⟨w.heap.size, 0, none⟩) [id] 1 1 rfl (by rfl) ((unhide HH).part.below (below_new _ _)) (by have := (unhide HH).lo; simp; omega) (one_num w id) (by have := unhide HL; simp; omega) ?_); intro q w3 g1 g2 g3 g4; obtain ⟨k1, k2, k3⟩ := (unhide HK) w3 q g1 g2 g3 (by simpa using g4); have HK1 := hide k1; clear g1 g2 g3 g4 k1; obtain ⟨qa, qc, qx⟩ := q; simp only [PartM.val] at HK1 ⊢))
      go_ret
      exact ⟨rfl, unhide HK1⟩

end
end Go.Proofs.YtkakncngkmoegaaGreat

namespace Go.Proofs.YtkakncngkmoegaaGreat
open Go.RowKit

def keysO (os : List OneM) : List Key := os.map keyO
theorem Sim.keys {ns : List NodeM} {os : List OneM} (h : Sim ns os) : ns.map keyN = keysO os := by
  unfold keysO
  refine List.ext_getElem? fun i => ?_
  rw [List.getElem?_map, List.getElem?_map]
  rcases ho : os[i]? with _ | o
  · have : ns[i]? = none := by
      rw [List.getElem?_eq_none_iff] at ho ⊢
      rw [h.len]; exact ho
    rw [this]; rfl
  · obtain ⟨n, hn, sm⟩ := h.get ho
    rw [hn]
    simp only [Option.map_some, keyN, keyO, sm.kind, sm.space, sm.name]
theorem keysO_len (os : List OneM) : (keysO os).length = os.length := by simp [keysO]

def aO (base bA : Nat) (os : List OneM) : Ob base := ⟨fun w F => ∃ ns, ArS w base bA ns F ∧ Sim ns os, fun _ _ _ ⟨_, h, _⟩ hk => h.lt hk, fun _ _ _ _ ⟨ns, h, hs⟩ hm hG => ⟨ns, h.mod hm hG, hs⟩⟩
def rO (base bR : Nat) (os : List OneM) : Ob base := ⟨fun w F => RfS w base bR os F, fun _ _ _ h hk => h.lt hk, fun _ _ _ _ h hm hG => h.mod hm hG⟩
def rsO (base bW bR : Nat) (L : List Int) : Ob base := ⟨fun w F => RstS w base bW bR L F, fun _ _ _ h hk => h.lt hk, fun _ _ _ _ h hm hG => h.mod hm hG⟩

section
variable {w wx : World} {obs : List (Ob w.heap.size)} {i j bA bR bK bW : Nat} {os : List OneM} {L : List Int}
theorem Env.a (h : Env w wx obs) (hi : obs[i]? = some (aO _ bA os)) : ∃ ns F, ArS wx w.heap.size bA ns F ∧ Sim ns os ∧ ∀ w2 os2, USim F wx w2 w.heap.size bA os2 → Env w w2 (obs.set i (aO _ bA os2)) := by
  obtain ⟨F, ⟨ns, ha, hs⟩, _, hk⟩ := h.upd hi
  refine ⟨ns, F, ha, hs, fun w2 os2 hu => ?_⟩
  obtain ⟨ms, ⟨F', h1, h2, h3⟩, h4⟩ := hu
  exact hk w2 (aO _ bA os2) F' ⟨ms, h1, h4⟩ h2 h3
theorem Env.r (h : Env w wx obs) (hi : obs[i]? = some (rO _ bR os)) : ∃ F, RfS wx w.heap.size bR os F ∧ ∀ w2 os2, URf F wx w2 w.heap.size bR os2 → Env w w2 (obs.set i (rO _ bR os2)) := by
  obtain ⟨F, ho, _, hk⟩ := h.upd hi
  refine ⟨F, ho, fun w2 k2 hu => ?_⟩
  obtain ⟨F', h1, h2, h3⟩ := hu
  exact hk w2 (rO _ bR k2) F' h1 h2 h3
theorem Env.as (h : Env w wx obs) (hi : obs[i]? = some (aO _ bA os)) (hj : obs[j]? = some (stOb _ bK bA (keysO os) L)) (hij : i ≠ j) :
    ∃ FA F, ArK wx w.heap.size bA (keysO os) FA ∧ StkS wx w.heap.size bK bA (elOf (keysO os)) L F ∧ ∀ w2 L2, UpdS F wx w2 w.heap.size bK bA (elOf (keysO os)) L2 → Env w w2 (obs.set j (stOb _ bK bA (keysO os) L2)) := by
  obtain ⟨F, ho, hd, hk⟩ := h.upd hj
  obtain ⟨FA, ⟨ns, ha, hs⟩, hdis⟩ := hd i _ hij hi
  refine ⟨FA, F, ⟨ns, ha, hs.keys⟩, ho, fun w2 L2 hu => ?_⟩
  obtain ⟨F', h1, h2, h3⟩ := hu
  exact hk w2 (stOb _ bK bA (keysO os) L2) F' h1 h2 h3
theorem Env.as3 (h : Env w wx obs) (hi : obs[i]? = some (aO _ bA os)) (hj : obs[j]? = some (stOb _ bK bA (keysO os) L)) (hij : i ≠ j) :
    ∃ FA F, ArK wx w.heap.size bA (keysO os) FA ∧ StkS wx w.heap.size bK bA (elOf (keysO os)) L F ∧ (∀ k, FA k → ¬ F k) ∧ ∀ w2 L2, UpdS F wx w2 w.heap.size bK bA (elOf (keysO os)) L2 → Env w w2 (obs.set j (stOb _ bK bA (keysO os) L2)) := by
  obtain ⟨F, ho, hd, hk⟩ := h.upd hj
  obtain ⟨FA, ⟨ns, ha, hs⟩, hdis⟩ := hd i _ hij hi
  refine ⟨FA, F, ⟨ns, ha, hs.keys⟩, ho, hdis, fun w2 L2 hu => ?_⟩
  obtain ⟨F', h1, h2, h3⟩ := hu
  exact hk w2 (stOb _ bK bA (keysO os) L2) F' h1 h2 h3
theorem Env.rs (h : Env w wx obs) (hi : obs[i]? = some (rO _ bR os)) (hj : obs[j]? = some (rsO _ bW bR L)) (hij : i ≠ j) :
    ∃ FA F, RfK wx w.heap.size bR (keysO os) FA ∧ RstS wx w.heap.size bW bR L F ∧ ∀ w2 L2, UpdW F wx w2 w.heap.size bW bR L2 → Env w w2 (obs.set j (rsO _ bW bR L2)) := by
  obtain ⟨F, ho, hd, hk⟩ := h.upd hj
  obtain ⟨FA, ha, hdis⟩ := hd i _ hij hi
  refine ⟨FA, F, ⟨os, ha, rfl⟩, ho, fun w2 L2 hu => ?_⟩
  obtain ⟨F', h1, h2, h3⟩ := hu
  exact hk w2 (rsO _ bW bR L2) F' h1 h2 h3

theorem anew_any (h : Env w wx obs) : Calls Tryz.prog 22 #[] wx fun e w' => ∃ bA, e = .returned (.pointer (some ⟨bA, 0, none⟩)) ∧ Env w w' (obs ++ [aO _ bA [oneM 0]]) := by
  refine (new_any wx w.heap.size h.bel.size).mono ?_
  rintro e w' ⟨F, rfl, h1, h2, h3⟩
  exact ⟨_, rfl, h.add h2 (o := aO _ _ _) ⟨_, h1, Sim.new⟩ h3⟩
theorem arnew_any (h : Env w wx obs) : Calls Tryz.prog 25 #[] wx fun e w' => ∃ bR, e = .returned (.pointer (some ⟨bR, 0, none⟩)) ∧ Env w w' (obs ++ [rO _ bR [oneM 0]]) := by
  refine (refNew_any wx w.heap.size h.bel.size).mono ?_
  rintro e w' ⟨bR, g, cap, rfl, h1, h2, h3, h4⟩
  refine ⟨bR, rfl, h.add h2 (o := rO _ bR _) (F := footR bR g [oneR 0]) ⟨g, cap, _, h1, rfl, fun _ => Iff.rfl⟩ ?_⟩
  rintro k (rfl | rfl | ⟨r, hr, hk⟩)
  · exact h3
  · exact h4
  · simp at hr; subst hr; simp [oneR, blk] at hk
theorem aelem_any (h : Env w wx obs) (hi : obs[i]? = some (aO _ bA os)) (sp : Int) (nm : ByteArray) :
    Calls Tryz.prog 18 #[.pointer (some ⟨bA, 0, none⟩), .int .i64 sp, .string nm, .slice none 0 0] wx fun e w' => e = .returned (.tuple #[.int .i64 (elemO os sp nm []).2.1, .int .i64 (elemO os sp nm []).2.2]) ∧ Env w w' (obs.set i (aO _ bA (elemO os sp nm []).1)) := by
  obtain ⟨ns, F, h1, hs, h2⟩ := h.a hi
  exact (element_sim h1 hs sp nm none 0 [] (attrs_none _) (by simp)).mono fun _ _ ⟨a, b⟩ => ⟨a, h2 _ _ b⟩
theorem arelem_any (h : Env w wx obs) (hi : obs[i]? = some (rO _ bR os)) (sp : Int) (nm : ByteArray) :
    Calls Tryz.prog 28 #[.pointer (some ⟨bR, 0, none⟩), .int .i64 sp, .string nm, .slice none 0 0] wx fun e w' => e = .returned (.tuple #[.int .i64 (elemO os sp nm []).2.1, .int .i64 (elemO os sp nm []).2.2]) ∧ Env w w' (obs.set i (rO _ bR (elemO os sp nm []).1)) := by
  obtain ⟨F, ha, h2⟩ := h.r hi
  have key : Calls Tryz.prog 28 #[.pointer (some ⟨bR, 0, none⟩), .int .i64 sp, .string nm, .slice none 0 0] wx fun e w' =>
      e = .returned (.tuple #[.int .i64 (elemO os sp nm []).2.1, .int .i64 (elemO os sp nm []).2.2]) ∧ URf F wx w' w.heap.size bR (elemO os sp nm []).1 := by
    by_cases h1 : sp < 0 ∨ 2 < sp
    · have e : elemO os sp nm [] = (os, 0, 1) := by unfold elemO; rw [if_pos h1]
      rw [e]
      exact (refElement_space sp nm _ h1).mono fun e w' ⟨h1, h2⟩ => ⟨h1, ha.upd (h2 ▸ Below.refl _ _)⟩
    · cases h2 : longS nm with
      | true =>
        have e : elemO os sp nm [] = (os, 0, 2) := by unfold elemO; rw [if_neg h1, longE_nil, h2]; rfl
        rw [e]
        exact (refElement_many sp nm none 0 0 (by omega) (by simp [maxLen]) (.inr h2)).mono fun e w' ⟨h1, h2⟩ => ⟨h1, ha.upd (h2 ▸ Below.refl _ _)⟩
      | false => exact refElement_in ha sp nm none 0 [] (attrs_none _) (by omega) (by simp) h2
  exact key.mono fun _ _ ⟨a, b⟩ => ⟨a, h2 _ _ b⟩
theorem alink_any (h : Env w wx obs) (hi : obs[i]? = some (aO _ bA os)) (p c b : Int) :
    Calls Tryz.prog 19 #[.pointer (some ⟨bA, 0, none⟩), .int .i64 p, .int .i64 c, .int .i64 b] wx fun e w' => e = .returned (.int .i64 (linkE os p c b)) ∧ Env w w' (obs.set i (aO _ bA (linkR os p c b))) := by
  obtain ⟨ns, F, h1, hs, h2⟩ := h.a hi
  exact (link_sim h1 hs p c b).mono fun _ _ ⟨a, b⟩ => ⟨a, h2 _ _ b⟩
theorem aunlink_any (h : Env w wx obs) (hi : obs[i]? = some (aO _ bA os)) (c : Int) :
    Calls Tryz.prog 170 #[.pointer (some ⟨bA, 0, none⟩), .int .i64 c] wx fun e w' => e = .returned (.int .i64 (unlinkE os c)) ∧ Env w w' (obs.set i (aO _ bA (unlinkR os c))) := by
  obtain ⟨ns, F, h1, hs, h2⟩ := h.a hi
  exact (unlink_sim h1 hs c).mono fun _ _ ⟨a, b⟩ => ⟨a, h2 _ _ b⟩
theorem arlink_any (h : Env w wx obs) (hi : obs[i]? = some (rO _ bR os)) (hs : ∃ ns, Sim ns os) (p c b : Int) :
    Calls Tryz.prog 29 #[.pointer (some ⟨bR, 0, none⟩), .int .i64 p, .int .i64 c, .int .i64 b] wx fun e w' => e = .returned (.int .i64 (linkE os p c b)) ∧ Env w w' (obs.set i (rO _ bR (linkR os p c b))) := by
  obtain ⟨F, h1, h2⟩ := h.r hi
  obtain ⟨ns, hs⟩ := hs
  exact (refLink_sim h1 hs p c b).mono fun _ _ ⟨a, b⟩ => ⟨a, h2 _ _ b⟩
theorem Env.sim (h : Env w wx obs) (hi : obs[i]? = some (aO _ bA os)) : ∃ ns, Sim ns os := by
  obtain ⟨ns, F, _, hs, _⟩ := h.a hi
  exact ⟨ns, hs⟩
theorem alen_any (h : Env w wx obs) (hi : obs[i]? = some (aO _ bA os)) : Calls Tryz.prog 12 #[.pointer (some ⟨bA, 0, none⟩)] wx fun e w' => e = .returned (.int .i64 os.length) ∧ wx = w' := by
  obtain ⟨ns, F, h1, hs, _⟩ := h.a hi
  have := len_k (ks := keysO os) ⟨ns, h1, hs.keys⟩
  rw [keysO_len] at this
  exact this
theorem Env.mostA (h : Env w wx obs) (hi : obs[i]? = some (aO _ bA os)) : os.length ≤ 32768 ∧ 0 < os.length := by
  obtain ⟨ns, F, h1, hs, _⟩ := h.a hi
  have := ArK.most (ks := keysO os) ⟨ns, h1, hs.keys⟩
  rw [keysO_len] at this
  exact this
theorem asnew_any (h : Env w wx obs) (hi : obs[i]? = some (aO _ bA os)) :
    Calls Tryz.prog 23 #[.pointer (some ⟨bA, 0, none⟩)] wx fun e w' => ∃ bK, e = .returned (.tuple #[.pointer (some ⟨bK, 0, none⟩), .int .i64 0]) ∧ Env w w' (obs ++ [stOb _ bK bA (keysO os) []]) := by
  obtain ⟨ns, F, h1, hs, _⟩ := h.a hi
  refine (snew_any (ks := keysO os) ⟨ns, h1, hs.keys⟩ h.bel.size).mono ?_
  rintro e w' ⟨bK, F, rfl, h1, h2, h3⟩
  exact ⟨bK, rfl, h.add h2 (o := stOb _ bK bA (keysO os) []) (h1 _) h3⟩
theorem arsnew_any (h : Env w wx obs) :
    Calls Tryz.prog 26 #[.pointer (some ⟨bR, 0, none⟩)] wx fun e w' => ∃ bW, e = .returned (.pointer (some ⟨bW, 0, none⟩)) ∧ Env w w' (obs ++ [rsO _ bW bR []]) := by
  refine (rNew_any h.bel.size).mono ?_
  rintro e w' ⟨bK, F, rfl, h1, h2, h3⟩
  exact ⟨bK, rfl, h.add h2 (o := rsO _ bK bR []) h1 h3⟩
theorem apush_any (h : Env w wx obs) (hi : obs[i]? = some (aO _ bA os)) (hj : obs[j]? = some (stOb _ bK bA (keysO os) L)) (hij : i ≠ j) (hg : Good (keysO os) L) (id : Int) :
    Calls Tryz.prog 20 #[.pointer (some ⟨bK, 0, none⟩), .int .i64 id] wx fun e w' => e = .returned (.int .i64 (enterE (keysO os) L id)) ∧ Env w w' (obs.set j (stOb _ bK bA (keysO os) (pushL (keysO os) L id))) := by
  obtain ⟨FA, F, h1, h2, h4⟩ := h.as hi hj hij
  exact (spush_any h1 h2 hg id).mono fun _ _ ⟨a, b⟩ => ⟨a, h4 _ _ b⟩
theorem arpush_any (h : Env w wx obs) (hi : obs[i]? = some (rO _ bR os)) (hj : obs[j]? = some (rsO _ bW bR L)) (hij : i ≠ j) (hg : Good (keysO os) L) (id : Int) :
    Calls Tryz.prog 30 #[.pointer (some ⟨bW, 0, none⟩), .int .i64 id] wx fun e w' => e = .returned (.int .i64 (enterE (keysO os) L id)) ∧ Env w w' (obs.set j (rsO _ bW bR (pushL (keysO os) L id))) := by
  obtain ⟨FA, F, h1, h2, h4⟩ := h.rs hi hj hij
  exact (rPush_any h1 h2 hg id).mono fun _ _ ⟨a, b⟩ => ⟨a, h4 _ _ b⟩
end
end Go.Proofs.YtkakncngkmoegaaGreat
