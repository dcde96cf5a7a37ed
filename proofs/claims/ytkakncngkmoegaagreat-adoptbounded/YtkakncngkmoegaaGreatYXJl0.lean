/-
  Plain: what a round of the agency leaves as it was meant to be. The agency: an entry comes into the list. Plain: a round of the agency, and eight of them, leave all as it was meant to be. The agency: the place in the tree; the children of a node.
-/
import Derived.Test.YtkakncngkmoegaaGreatYXJf
import Derived.Test.YtkakncngkmoegaaGreatXGz1
namespace Go.Proofs.YtkakncngkmoegaaGreat
open Go.RowKit

theorem keysO_appG (os ms : List OneM) : keysO (os ++ ms) = keysO os ++ keysO ms := by simp [keysO]
theorem EntOk.grow {ks ms : List Key} {x : EntM} (h : EntOk ks x) : EntOk (ks ++ ms) x := h.imp id fun ⟨a, b, c⟩ => ⟨keyAt_grow a, b, c⟩
theorem hasO_key {os : List OneM} {k : Int} {q : Key} (h : keyAt (keysO os) k = some q) : hasO os k = true := by
  obtain ⟨i, rfl, hi⟩ := keyAt_some h
  have := (List.getElem?_eq_some_iff.1 hi).1
  rw [keysO_len] at this
  simp [hasO]
  omega
theorem hasO_el {os : List OneM} {L : List Int} (hg : Good (keysO os) L) {x : Int} (hx : x ∈ L) : hasO os x = true := by
  obtain ⟨i, rfl, hi⟩ := elOf_nat (hg.el x hx)
  rw [keysO_len] at hi
  simp [hasO]
  omega
theorem hasO_le {os os' : List OneM} (h : os.length ≤ os'.length) {k : Int} (hk : hasO os k = true) : hasO os' k = true := by
  simp only [hasO, decide_eq_true_eq] at hk ⊢
  omega
/-- A new element for an entry's token. -/
structure NewS (s : St) (n : Int) : Prop where
  err : (newR s n).2.2 = 0
  id : newI s n = (s.os.length : Int)
  key : keyAt (keysO (newP s n).os) (newI s n) = some ⟨1, 0, (tokE s.es n).name⟩
  grow : ∃ ms, (newP s n).os = s.os ++ ms ∧ 0 < ms.length ∧ ms.length ≤ 2
theorem new_ok {s : St} {n : Nat} (hi : Inv s n) (hr : s.os.length + 2 ≤ 32768) {id : Int} (hp : 0 ≤ placeE s.es id) : NewS s id ∧ Inv (newP s id) (s.os.length + 2) := by
  obtain ⟨ha, hl⟩ := tok_none hi hp
  obtain ⟨ms, h1, h2, h3, h4, h5, h6, h7⟩ := elemO_new (os := s.os) (nm := (tokE s.es id).name) hr hl
  have hR : newR s id = elemO s.os 0 (tokE s.es id).name [] := by unfold newR; rw [ha]
  have hos : (newP s id).os = s.os ++ ms := by unfold newP; rw [hR]; exact h1
  have hid : newI s id = (s.os.length : Int) := by unfold newI; rw [hR]; exact h2
  refine ⟨⟨by rw [hR]; exact h3, hid, by rw [hos, hid]; exact h7, ms, hos, h4, h5⟩, ⟨?_, ?_, ?_, hi.less, ?_⟩⟩
  · rw [hos, keysO_appG]; exact hi.good.grow
  · intro x hx
    rw [hos, keysO_appG]
    exact (hi.ent x hx).grow
  · rw [hos, List.length_append]; omega
  · intro o ho
    rw [hos] at ho
    rcases List.mem_append.1 ho with e | e
    · exact hi.one o e
    · exact h6 o e
theorem NewS.has {s : St} {n : Int} (h : NewS s n) : hasO (newP s n).os (newI s n) = true := hasO_key h.key
theorem NewS.more {s : St} {n : Int} (h : NewS s n) : s.os.length ≤ (newP s n).os.length ∧ (newP s n).os.length ≤ s.os.length + 2 := by
  obtain ⟨ms, e, _, h2⟩ := h.grow
  rw [e, List.length_append]
  omega
theorem putP_len (s : St) (p q id : Int) : (putP s p q id).os.length = s.os.length := (kin_spot s.os p q id).len

-- the stack, below a place
theorem at_nat {L : List Int} {i : Nat} (h : i < L.length) : L[i]? = some (atM L (i : Int)) := by
  unfold atM
  rw [if_pos (by omega), Int.toNat_natCast, List.getElem?_eq_getElem h]
  rfl
theorem idx_at {L : List Int} (hn : L.Nodup) {i : Nat} (h : i < L.length) : L.idxOf (atM L (i : Int)) = i := by
  have h1 := at_nat h
  obtain ⟨_, h2⟩ := List.getElem?_eq_some_iff.1 h1
  rw [← h2]
  exact hn.idxOf_getElem i h
theorem mem_at {L : List Int} {i : Nat} (h : i < L.length) : atM L (i : Int) ∈ L := List.mem_of_getElem? (at_nat h)
theorem take_leave {L : List Int} (hn : L.Nodup) {i : Nat} (h : i < L.length) : (removeL L (atM L (i : Int))).take i = L.take i ∧ i ≤ (removeL L (atM L (i : Int))).length := by
  unfold removeL
  rw [if_pos (mem_at h), idx_at hn h]
  refine ⟨?_, ?_⟩
  · rw [List.take_append_of_le_length (by rw [List.length_take]; omega), List.take_take, Nat.min_self]
  · rw [List.length_append, List.length_take]; omega
theorem take_swap {ks : List Key} {L : List Int} (hn : L.Nodup) {i : Nat} (h : i < L.length) (id : Int) : (swapL ks L (atM L (i : Int)) id).take i = L.take i ∧ i ≤ (swapL ks L (atM L (i : Int)) id).length := by
  unfold swapL
  split
  · rw [idx_at hn h]
    exact ⟨List.take_set_of_le (Nat.le_refl _), by rw [List.length_set]; omega⟩
  · exact ⟨rfl, by omega⟩

/-- From B down to F: what stays. -/
structure RI (f b : Int) (N i c : Nat) (L0 : List Int) (m0 : Nat) (s : St) (last : Int) : Prop where
  inv : Inv s (N + 6)
  room : s.os.length + 2 * (4 - c) ≤ N + 6
  plc : 0 ≤ placeE s.es f
  mrk : s.mark ≤ 1000000
  fix : s.L.take i = L0.take i
  lt : i ≤ s.L.length
  fin : f ∈ L0.take i
  hl : hasO s.os last = true
  hb : hasO s.os b = true
  old : m0 ≤ s.os.length
  es : s.es.length ≤ 100000
section
variable {f b last : Int} {N i c m0 : Nat} {L0 : List Int} {s : St}
theorem RI.pos (h : RI f b N i c L0 m0 s last) : 0 < i := by
  have := h.fin
  cases i with
  | zero => simp at this
  | succ i => omega
theorem RI.below (h : RI f b N (i + 1) c L0 m0 s last) (hne : atM s.L (i : Int) ≠ f) : f ∈ L0.take i := by
  have h1 := h.fin
  rw [← h.fix] at h1
  have h2 : (s.L.take (i + 1)).take i = (L0.take (i + 1)).take i := by rw [h.fix]
  rw [List.take_take, List.take_take, Nat.min_eq_left (Nat.le_succ i)] at h2
  rw [← h2]
  rw [List.take_add_one, at_nat (by have := h.lt; omega)] at h1
  rcases List.mem_append.1 h1 with e | e
  · exact e
  · simp only [Option.toList_some, List.mem_singleton] at e
    exact absurd e.symm hne
theorem RI.fix1 (h : RI f b N (i + 1) c L0 m0 s last) : s.L.take i = L0.take i := by
  have h2 : (s.L.take (i + 1)).take i = (L0.take (i + 1)).take i := by rw [h.fix]
  rwa [List.take_take, List.take_take, Nat.min_eq_left (Nat.le_succ i)] at h2
theorem placeE_ltG (es : List EntM) (id : Int) : placeE es id < (es.length : Int) ∨ placeE es id < 0 := by
  by_cases h : 0 ≤ placeE es id
  · obtain ⟨i, x, e, hx, _⟩ := place_at h
    have := (List.getElem?_eq_some_iff.1 hx).1
    omega
  · omega
theorem placeE_low (es : List EntM) (id : Int) : -9000000000 ≤ placeE es id + 1 := by
  have key : ∀ l : List (Nat × Int), -1 ≤ findP id l := by
    intro l
    induction l with
    | nil => exact Int.le_refl _
    | cons a l ih =>
      obtain ⟨i, x⟩ := a
      unfold findP
      split
      · omega
      · exact ih
  have := key (pairsN es es.length)
  unfold placeE
  omega
theorem place_mk {es : List EntM} (h : es.length ≤ 100000) (id : Int) : placeE es id + 1 ≤ 1000000 := by
  rcases placeE_ltG es id with e | e <;> omega
theorem goP_es (s : St) (n : Int) : (goP s n).es.length ≤ s.es.length := by
  unfold goP leaveP
  split
  · exact delE_leG _ _
  · exact Nat.le_refl _
theorem Inv.go {n : Nat} (h : Inv s n) (k : Int) : Inv (goP s k) n := by
  unfold goP
  split
  · exact (h.drop k).leave k
  · exact h.leave k
theorem dropP_mark (s : St) (n : Int) (h : s.mark ≤ 1000000) : (dropP s n).mark ≤ 1000000 := by
  unfold dropP
  simp only
  split <;> omega
theorem RI.go (h : RI f b N (i + 1) c L0 m0 s last) (hne : atM s.L (i : Int) ≠ f) : RI f b N i (c + 1) L0 m0 (goP s (atM s.L (i : Int))) last := by
  have hlt : i < s.L.length := by have := h.lt; omega
  have ht := take_leave h.inv.good.nodup hlt
  have hL : (goP s (atM s.L (i : Int))).L = removeL s.L (atM s.L (i : Int)) := by unfold goP leaveP; split <;> rfl
  have hos : (goP s (atM s.L (i : Int))).os = s.os := by unfold goP leaveP; split <;> rfl
  refine ⟨h.inv.go _, ?_, ?_, ?_, ?_, ?_, h.below hne, by rw [hos]; exact h.hl, by rw [hos]; exact h.hb, by rw [hos]; exact h.old, Nat.le_trans (goP_es _ _) h.es⟩
  · rw [hos]; have := h.room; omega
  · unfold goP leaveP
    split
    · exact place_del h.plc hne
    · exact h.plc
  · unfold goP leaveP
    split
    · exact dropP_mark s _ h.mrk
    · exact h.mrk
  · rw [hL, ht.1]; exact h.fix1
  · rw [hL]; exact ht.2
theorem swapEAc_len (ks : List Key) (es : List EntM) (old id : Int) : (swapEAc ks es old id).length = es.length := by
  unfold swapEAc
  split
  · rw [List.length_set]
  · rfl
theorem RI.new (h : RI f b N (i + 1) c L0 m0 s last) (hN : N + 8 ≤ 32768) (hc : c ≤ 3) (hp : 0 ≤ placeE s.es (atM s.L (i : Int))) : NewS s (atM s.L (i : Int)) ∧ Inv (newP s (atM s.L (i : Int))) (N + 6) := by
  have hr := h.room
  have := new_ok h.inv (by omega) hp
  exact ⟨this.1, this.2.mono (by omega)⟩
/-- The new one has the old one's place. -/
theorem RI.swapped (h : RI f b N (i + 1) c L0 m0 s last) (hN : N + 8 ≤ 32768) (hc : c ≤ 3) (hp : 0 ≤ placeE s.es (atM s.L (i : Int))) : Inv (swapP (newP s (atM s.L (i : Int))) (atM s.L (i : Int)) (newI s (atM s.L (i : Int)))) (N + 6) :=
  (h.new hN hc hp).2.swap _ _ (.inr (h.new hN hc hp).1.key)
theorem RI.again (h : RI f b N (i + 1) c L0 m0 s last) (hN : N + 8 ≤ 32768) (hc : c ≤ 3) (hne : atM s.L (i : Int) ≠ f) (hp : 0 ≤ placeE s.es (atM s.L (i : Int))) : RI f b N i (c + 1) L0 m0 (againP b s (atM s.L (i : Int)) last) (newI s (atM s.L (i : Int))) := by
  have hlt : i < s.L.length := by have := h.lt; omega
  obtain ⟨hn, hi1⟩ := h.new hN hc hp
  have hi2 := h.swapped hN hc hp
  have ht := take_swap (ks := keysO (newP s (atM s.L (i : Int))).os) h.inv.good.nodup hlt (newI s (atM s.L (i : Int)))
  have hm := hn.more
  have hL : (againP b s (atM s.L (i : Int)) last).L = swapL (keysO (newP s (atM s.L (i : Int))).os) s.L (atM s.L (i : Int)) (newI s (atM s.L (i : Int))) := by
    unfold againP
    split <;> rfl
  have hes : (againP b s (atM s.L (i : Int)) last).es = swapEAc (keysO (newP s (atM s.L (i : Int))).os) s.es (atM s.L (i : Int)) (newI s (atM s.L (i : Int))) := by
    unfold againP
    split <;> rfl
  have hos : (againP b s (atM s.L (i : Int)) last).os.length = (newP s (atM s.L (i : Int))).os.length := by
    unfold againP
    rw [putP_len]
    split <;> rfl
  have hmk : (againP b s (atM s.L (i : Int)) last).mark ≤ 1000000 := by
    unfold againP putP
    split
    · exact place_mk hi2.less _
    · exact h.mrk
  refine ⟨?_, ?_, ?_, hmk, ?_, ?_, h.below hne, hasO_le (by rw [hos]; exact Nat.le_refl _) hn.has, hasO_le (by rw [hos]; exact hm.1) h.hb, ?_, ?_⟩
  · unfold againP
    refine Inv.put ?_ _ _ _
    split
    · exact hi2.mark _
    · exact hi2
  · rw [hos]; have := h.room; omega
  · rw [hes]; exact place_swap h.plc hne
  · rw [hL, ht.1]; exact h.fix1
  · rw [hL]; exact ht.2
  · rw [hos]; exact Nat.le_trans h.old hm.1
  · rw [hes, swapEAc_len]; exact h.es
end
/-- What renew leaves. -/
structure RX (f b : Int) (N m0 : Nat) (s : St) (last : Int) : Prop where
  inv : Inv s (N + 6)
  plc : 0 ≤ placeE s.es f
  mrk : s.mark ≤ 1000000
  hl : hasO s.os last = true
  hb : hasO s.os b = true
  old : m0 ≤ s.os.length
theorem RI.out {f b last : Int} {N i c m0 : Nat} {L0 : List Int} {s : St} (h : RI f b N i c L0 m0 s last) : RX f b N m0 s last := ⟨h.inv, h.plc, h.mrk, h.hl, h.hb, h.old⟩
theorem renewP_ok {f b : Int} {N m0 : Nat} {L0 : List Int} (hN : N + 8 ≤ 32768) : ∀ {i c : Nat} {s : St} {last : Int}, RI f b N i c L0 m0 s last → RX f b N m0 (renewP f b i c s last).1 (renewP f b i c s last).2
  | 0, _, _, _, h => h.out
  | i + 1, c, s, last, h => by
    unfold renewP
    by_cases e : atM s.L (i : Int) = f
    · rw [if_pos e]; exact h.out
    · rw [if_neg e]
      by_cases e2 : 0 ≤ placeE s.es (atM s.L (i : Int)) ∧ c ≤ 3
      · rw [if_pos e2]; exact renewP_ok hN (h.again hN e2.2 e e2.1)
      · rw [if_neg e2]; exact renewP_ok hN (h.go e)

-- the place in the tree
theorem spotF_ok {ns : List NodeM} {os : List OneM} {L : List Int} (hs : Sim ns os) (hg : Good (keysO os) L) (hone : ∀ o ∈ os, OneI o) {k : Nat} (hk : k < os.length) (fo : Bool) : hasO os (spotF os L (k : Int) fo).1 = true ∧ ((spotF os L (k : Int) fo).2 = -1 ∨ hasO os (spotF os L (k : Int) fo).2 = true) := by
  have hout : ∀ (p : Nat) (q : Int), p < os.length → (q = -1 ∨ hasO os q = true) → hasO os (outP os ((p : Int), q)).1 = true ∧ ((outP os ((p : Int), q)).2 = -1 ∨ hasO os (outP os ((p : Int), q)).2 = true) := by
    intro p q hp hq
    have ho : os[p]? = some os[p] := List.getElem?_eq_getElem hp
    unfold outP
    simp only
    rw [qK_of ho, innerO_of ho]
    by_cases h : isOfO os[p] [tmplB] = true
    · rw [if_pos h]
      have h1 := (hone _ (List.getElem_mem hp)).inner.2 h
      rcases hs.inner p _ ho with e | ⟨e, m, hm, _⟩
      · exact absurd e h1
      · have := (List.getElem?_eq_some_iff.1 hm).1
        refine ⟨?_, .inl rfl⟩
        rw [e]
        simp [hasO]
        omega
    · rw [if_neg h]
      exact ⟨by simp [hasO]; omega, hq⟩
  unfold spotF
  cases fo with
  | false => exact hout k (-1) hk (.inl rfl)
  | true =>
    simp only [if_true, Int.toNat_natCast]
    unfold spotP
    by_cases hq : qK (keysO os) partsB (k : Int) = true
    · rw [if_pos hq]
      obtain ⟨_, p, hp, hpl⟩ := ways_same hs hg hone hk
      have h2 : (progF os L (k : Int)).2 = -1 ∨ hasO os (progF os L (k : Int)).2 = true := by
        unfold progF
        split
        · exact .inl rfl
        · rename_i hz
          rcases scanL_lt (qK (keysO os) [tableB, tmplB]) L L.length with e | ⟨j, e, hj, _⟩
          · exact absurd e hz
          · split
            · exact .inl rfl
            · split
              · right
                simp only
                rw [e]
                exact hasO_el hg (mem_at hj)
              · split
                · exact .inl rfl
                · exact .inl rfl
      have e : progF os L (k : Int) = ((p : Int), (progF os L (k : Int)).2) := by rw [← hp]
      rw [e]
      exact hout p _ hpl h2
    · rw [if_neg hq]
      exact hout k (-1) hk (.inl rfl)
theorem below_ok {os : List OneM} {L : List Int} (hg : Good (keysO os) L) {f : Int} (hf : f ∈ L) : ∃ k : Nat, belowP L f = (k : Int) ∧ k < os.length := by
  unfold belowP
  split
  · rename_i h
    obtain ⟨j, e, hj, _⟩ := findM_nat (L := L) (f := f) (by omega)
    rw [e] at h ⊢
    have hx : atM L ((j : Int) - 1) ∈ L := by
      rw [show (j : Int) - 1 = ((j - 1 : Nat) : Int) by omega]
      exact mem_at (by omega)
    obtain ⟨i, e2, hi⟩ := elOf_nat (hg.el _ hx)
    rw [keysO_len] at hi
    exact ⟨i, e2, hi⟩
  · obtain ⟨i, e2, hi⟩ := elOf_nat (hg.el _ hf)
    rw [keysO_len] at hi
    exact ⟨0, rfl, by omega⟩
end Go.Proofs.YtkakncngkmoegaaGreat

namespace Go.Proofs.YtkakncngkmoegaaGreat
open Go.RowKit Go.Sort

section
variable {w wx : World} {P : Pt} {s : St} {c : Ct} {rest : List (Ob w.heap.size)} {n : Nat}
theorem AE.boxesT (h : AE w wx P s c rest) (id : Int) (t0 : Int) (t1 t2 t3 : ByteArray) (t4 : Int) (t5 : Bool) (t6 : Int) (t7 : Bool) (ao : Option Addr) (m ac : Nat) : AE w (((wx.alloc (.cells #[.pointer (some ⟨P.bG, 0, none⟩)] 83)).alloc (.cells #[.int .i64 id] 3)).alloc (.cells #[.int .i64 t0, .string t1, .string t2, .string t3, .int .i64 t4, .bool t5, .int .i32 t6, .bool t7, .slice ao m ac] 52)) P s c (((rest ++ [blkOb _ wx.heap.size #[.pointer (some ⟨P.bG, 0, none⟩)] 83]) ++ [blkOb _ (wx.heap.size + 1) #[.int .i64 id] 3]) ++ [blkOb _ (wx.heap.size + 1 + 1) #[.int .i64 t0, .string t1, .string t2, .string t3, .int .i64 t4, .bool t5, .int .i32 t6, .bool t7, .slice ao m ac] 52]) := by
  have h2 := (h.boxes (Dk.start wx P.bG id)).boxed #[.int .i64 t0, .string t1, .string t2, .string t3, .int .i64 t4, .bool t5, .int .i32 t6, .bool t7, .slice ao m ac] 52
  rwa [show ((wx.alloc (.cells #[.pointer (some ⟨P.bG, 0, none⟩)] 83)).alloc (.cells #[.int .i64 id] 3)).heap.size = wx.heap.size + 1 + 1 by simp] at h2
theorem AE.boxesT_cells {W' : World} {s' : St} {c' : Ct} {id : Int} {t0 : Int} {t1 t2 t3 : ByteArray} {t4 : Int} {t5 : Bool} {t6 : Int} {t7 : Bool} {ao : Option Addr} {m ac : Nat} (hW : AE w W' P s' c' (((rest ++ [blkOb _ wx.heap.size #[.pointer (some ⟨P.bG, 0, none⟩)] 83]) ++ [blkOb _ (wx.heap.size + 1) #[.int .i64 id] 3]) ++ [blkOb _ (wx.heap.size + 1 + 1) #[.int .i64 t0, .string t1, .string t2, .string t3, .int .i64 t4, .bool t5, .int .i32 t6, .bool t7, .slice ao m ac] 52])) : W'.cell? ⟨wx.heap.size, 0, none⟩ = some (.pointer (some ⟨P.bG, 0, none⟩)) ∧ W'.cell? ⟨wx.heap.size + 1, 0, none⟩ = some (.int .i64 id) ∧ W'.cell? ⟨wx.heap.size + 1 + 1, 0, none⟩ = some (.int .i64 t0) ∧ W'.cell? ⟨wx.heap.size + 1 + 1, 1, none⟩ = some (.string t1) ∧ W'.cell? ⟨wx.heap.size + 1 + 1, 2, none⟩ = some (.string t2) ∧ W'.cell? ⟨wx.heap.size + 1 + 1, 3, none⟩ = some (.string t3) ∧ W'.cell? ⟨wx.heap.size + 1 + 1, 4, none⟩ = some (.int .i64 t4) ∧ W'.cell? ⟨wx.heap.size + 1 + 1, 5, none⟩ = some (.bool t5) ∧ W'.cell? ⟨wx.heap.size + 1 + 1, 6, none⟩ = some (.int .i32 t6) ∧ W'.cell? ⟨wx.heap.size + 1 + 1, 7, none⟩ = some (.bool t7) ∧ W'.cell? ⟨wx.heap.size + 1 + 1, 8, none⟩ = some (.slice ao m ac) ∧ W'.cell? ⟨P.bG, 2, none⟩ = some (.pointer (some ⟨P.bL, 0, none⟩)) ∧ W'.cell? ⟨P.bG, 6, none⟩ = some (.int .i64 s'.mark) := by
  have b1 := hW.block (i := rest.length) (three_at _ _ _ _).1
  have b2 := hW.block (i := rest.length + 1) (three_at _ _ _ _).2.1
  have b3 := hW.block (i := rest.length + 1 + 1) (three_at _ _ _ _).2.2
  exact ⟨cell_of_row _ _ 0 _ _ _ b1, cell_of_row _ _ 0 _ _ _ b2, cell_of_row _ _ 0 _ _ _ b3, cell_of_row _ _ 1 _ _ _ b3, cell_of_row _ _ 2 _ _ _ b3, cell_of_row _ _ 3 _ _ _ b3, cell_of_row _ _ 4 _ _ _ b3, cell_of_row _ _ 5 _ _ _ b3, cell_of_row _ _ 6 _ _ _ b3, cell_of_row _ _ 7 _ _ _ b3, cell_of_row _ _ 8 _ _ _ b3, hW.cells.2.2.1, hW.cells.2.2.2.2.2.2⟩
set_option maxHeartbeats 2000000 in
theorem genter_any (h : AE w wx P s c rest) (hi : Inv s n) (hc : c.cnt < 1000000000) (id : Int) (t : TokM) (ha : t.attrs = []) (ao : Option Addr) (ac : Nat) : Calls Tryz.prog 172 #[.pointer (some ⟨P.bG, 0, none⟩), .int .i64 id, .agg (t.cells (.slice ao t.attrs.length ac)).toArray] wx fun e w' => e = .returned (.tuple #[]) ∧ AE w w' P (enterP s id t) ⟨c.another, c.errs, c.cnt + 1⟩ rest := by
  have hmf : ∀ (fn : Fn) (first cap : Array Value) (w : World), (Instr.makeFunc fn first cap).run Tryz.prog w = .ok (.func fn first cap) w := fun _ _ _ _ => rfl
  have HPT0 : ∀ W (r : List (Ob w.heap.size)), AE w W P s c r → Calls Tryz.prog 126 #[.pointer (some ⟨P.bL, 0, none⟩), .int .i64 s.mark, .int .i64 id, .agg (t.cells (.slice ao t.attrs.length ac)).toArray] W fun e w' => e = .returned (.int .i64 (putA (keysO s.os) s.es s.mark id)) ∧ AE w w' P (enterP s id t) c r := fun W r hW => ae_lput hW hi s.mark id t ao ac ⟨fun i x hx => by rw [ha] at hx; simp at hx⟩ (by rw [ha]; simp)
  have hmk : (enterP s id t).mark = s.mark := rfl
  generalize hE : enterP s id t = sE at *
  generalize putA (keysO s.os) s.es s.mark id = eA at *
  clear ha hE
  obtain ⟨t0, t1, t2, t3, t4, t5, t6, t7, ta⟩ := t
  simp only [TokM.cells] at *
  generalize ta.length = m at *
  have HMK := hide hmk
  clear hmk
  have hae := h.boxesT id t0 t1 t2 t3 t4 t5 t6 t7 ao m ac
  have HS : Hid (∀ W' (s' : St) (c' : Ct), AE w W' P s' c' (((rest ++ [blkOb _ wx.heap.size #[.pointer (some ⟨P.bG, 0, none⟩)] 83]) ++ [blkOb _ (wx.heap.size + 1) #[.int .i64 id] 3]) ++ [blkOb _ (wx.heap.size + 1 + 1) #[.int .i64 t0, .string t1, .string t2, .string t3, .int .i64 t4, .bool t5, .int .i32 t6, .bool t7, .slice ao m ac] 52]) → W'.cell? ⟨wx.heap.size, 0, none⟩ = some (.pointer (some ⟨P.bG, 0, none⟩)) ∧ W'.cell? ⟨wx.heap.size + 1, 0, none⟩ = some (.int .i64 id) ∧ W'.cell? ⟨wx.heap.size + 1 + 1, 0, none⟩ = some (.int .i64 t0) ∧ W'.cell? ⟨wx.heap.size + 1 + 1, 1, none⟩ = some (.string t1) ∧ W'.cell? ⟨wx.heap.size + 1 + 1, 2, none⟩ = some (.string t2) ∧ W'.cell? ⟨wx.heap.size + 1 + 1, 3, none⟩ = some (.string t3) ∧ W'.cell? ⟨wx.heap.size + 1 + 1, 4, none⟩ = some (.int .i64 t4) ∧ W'.cell? ⟨wx.heap.size + 1 + 1, 5, none⟩ = some (.bool t5) ∧ W'.cell? ⟨wx.heap.size + 1 + 1, 6, none⟩ = some (.int .i32 t6) ∧ W'.cell? ⟨wx.heap.size + 1 + 1, 7, none⟩ = some (.bool t7) ∧ W'.cell? ⟨wx.heap.size + 1 + 1, 8, none⟩ = some (.slice ao m ac) ∧ W'.cell? ⟨P.bG, 2, none⟩ = some (.pointer (some ⟨P.bL, 0, none⟩)) ∧ W'.cell? ⟨P.bG, 6, none⟩ = some (.int .i64 s'.mark)) := hide (fun W' s' c' hW => hW.boxesT_cells)
  have HPT := hide (fun W (hW : AE w W P s c (((rest ++ [blkOb _ wx.heap.size #[.pointer (some ⟨P.bG, 0, none⟩)] 83]) ++ [blkOb _ (wx.heap.size + 1) #[.int .i64 id] 3]) ++ [blkOb _ (wx.heap.size + 1 + 1) #[.int .i64 t0, .string t1, .string t2, .string t3, .int .i64 t4, .bool t5, .int .i32 t6, .bool t7, .slice ao m ac] 52])) => HPT0 W _ hW)
  have HCH := hide (fun W (s' : St) (e : Int) (fn : Fn) (fi ca : Array Value) (hW : AE w W P s' c (((rest ++ [blkOb _ wx.heap.size #[.pointer (some ⟨P.bG, 0, none⟩)] 83]) ++ [blkOb _ (wx.heap.size + 1) #[.int .i64 id] 3]) ++ [blkOb _ (wx.heap.size + 1 + 1) #[.int .i64 t0, .string t1, .string t2, .string t3, .int .i64 t4, .bool t5, .int .i32 t6, .bool t7, .slice ao m ac] 52])) => changed_any hW hc e fn fi ca)
  have HDR := hide (fun W (s' : St) (c' : Ct) (hW : AE w W P s' c' (((rest ++ [blkOb _ wx.heap.size #[.pointer (some ⟨P.bG, 0, none⟩)] 83]) ++ [blkOb _ (wx.heap.size + 1) #[.int .i64 id] 3]) ++ [blkOb _ (wx.heap.size + 1 + 1) #[.int .i64 t0, .string t1, .string t2, .string t3, .int .i64 t4, .bool t5, .int .i32 t6, .bool t7, .slice ao m ac] 52])) => hW.drop1.drop1.drop1)
  have HX := hide hae
  obtain ⟨y0, y1, y2, y3, y4, y5, y6, y7, y8, y9, y10, y11, y12⟩ := (unhide HS) _ _ _ hae
  generalize (((rest ++ [blkOb w.heap.size wx.heap.size #[.pointer (some ⟨P.bG, 0, none⟩)] 83]) ++ [blkOb w.heap.size (wx.heap.size + 1) #[.int .i64 id] 3]) ++ [blkOb w.heap.size (wx.heap.size + 1 + 1) #[.int .i64 t0, .string t1, .string t2, .string t3, .int .i64 t4, .bool t5, .int .i32 t6, .bool t7, .slice ao m ac] 52]) = rest2 at *
  clear h hi hc hae HPT0
  go_enter Tryz.func172, Tryz.ntmps172
  go_wp2
  generalize ((wx.alloc (.cells #[.pointer (some ⟨P.bG, 0, none⟩)] 83)).alloc (.cells #[.int .i64 id] 3)).alloc (.cells #[.int .i64 t0, .string t1, .string t2, .string t3, .int .i64 t4, .bool t5, .int .i32 t6, .bool t7, .slice ao m ac] 52) = W0 at *
  go_region_held3 (fun W' => W'.cell? ⟨wx.heap.size, 0, none⟩ = some (.pointer (some ⟨P.bG, 0, none⟩)) ∧ W'.cell? ⟨wx.heap.size + 1, 0, none⟩ = some (.int .i64 id) ∧ W'.cell? ⟨wx.heap.size + 1 + 1, 0, none⟩ = some (.int .i64 t0) ∧ W'.cell? ⟨wx.heap.size + 1 + 1, 1, none⟩ = some (.string t1) ∧ W'.cell? ⟨wx.heap.size + 1 + 1, 2, none⟩ = some (.string t2) ∧ W'.cell? ⟨wx.heap.size + 1 + 1, 3, none⟩ = some (.string t3) ∧ W'.cell? ⟨wx.heap.size + 1 + 1, 4, none⟩ = some (.int .i64 t4) ∧ W'.cell? ⟨wx.heap.size + 1 + 1, 5, none⟩ = some (.bool t5) ∧ W'.cell? ⟨wx.heap.size + 1 + 1, 6, none⟩ = some (.int .i32 t6) ∧ W'.cell? ⟨wx.heap.size + 1 + 1, 7, none⟩ = some (.bool t7) ∧ W'.cell? ⟨wx.heap.size + 1 + 1, 8, none⟩ = some (.slice ao m ac) ∧ W'.cell? ⟨P.bG, 2, none⟩ = some (.pointer (some ⟨P.bL, 0, none⟩)) ∧ W'.cell? ⟨P.bG, 6, none⟩ = some (.int .i64 s.mark)) (first | (have q := (unhide HS) _ _ _ (unhide HX3); rw [unhide HMK] at q; exact q) | (have q := (unhide HS) _ _ _ (unhide HX2); rw [unhide HMK] at q; exact q) | exact (unhide HS) _ _ _ (unhide HX) | exact (unhide HS) _ _ _ (unhide HX).drew) (first
    | (go_at_call 126; refine ((unhide HPT) _ (by first | exact unhide HX | exact (unhide HX).drew)).mono ?_; rintro e w3 ⟨rfl, he3⟩; have HX2 := hide he3; clear he3)
    | (go_at_call 124; refine ((unhide HCH) _ _ _ _ _ _ (unhide HX2)).mono ?_; rintro e w4 ⟨rfl, he4⟩; have HX3 := hide he4; clear he4))
  all_goals go_wp2
  all_goals exact ⟨rfl, _, results_none rfl _ _ _, rfl, (unhide HDR) _ _ _ (unhide HX3)⟩
end
end Go.Proofs.YtkakncngkmoegaaGreat

namespace Go.Proofs.YtkakncngkmoegaaGreat
open Go.RowKit

-- M gets what is in B
theorem kidsP_as (m : Int) : ∀ (l : List Nat) (s : St), (kidsP m s l).L = s.L ∧ (kidsP m s l).es = s.es ∧ (kidsP m s l).mark = s.mark ∧ Kin s.os (kidsP m s l).os
  | [], s => ⟨rfl, rfl, rfl, Kin.refl _⟩
  | k :: l, s => by
    obtain ⟨h1, h2, h3, h4⟩ := kidsP_as m l (putP s m (-1) (k : Int))
    exact ⟨h1, h2, h3, (kin_spot s.os m (-1) (k : Int)).trans h4⟩
theorem kidsP_snoc (m : Int) (s : St) (l : List Nat) (k : Nat) : kidsP m s (l ++ [k]) = putP (kidsP m s l) m (-1) (k : Int) := by
  unfold kidsP
  rw [List.foldl_append]
  rfl
theorem Inv.kids {s : St} {n : Nat} (h : Inv s n) (m : Int) (l : List Nat) : Inv (kidsP m s l) n := by
  obtain ⟨h1, h2, h3, h4⟩ := kidsP_as m l s
  have := h.kin h4
  exact ⟨by rw [h1]; exact this.good, by rw [h2]; exact this.ent, this.few, by rw [h2]; exact this.less, this.one⟩
theorem fillP_as (s : St) (f b : Int) : (fillP s f b).L = s.L ∧ (fillP s f b).es = s.es ∧ (fillP s f b).mark = s.mark ∧ Kin (newP s f).os (fillP s f b).os := by
  obtain ⟨h1, h2, h3, h4⟩ := kidsP_as (newI s f) (kidsO (newR s f).1 b) (newP s f)
  exact ⟨h1, h2, h3, h4.trans (kin_spot _ _ _ _)⟩
theorem fillP_inv {s : St} {n : Nat} (f b : Int) (h : Inv (newP s f) n) : Inv (fillP s f b) n := (h.kids _ _).put _ _ _
/-- What replace needs. -/
structure RpI (s : St) (f b : Int) (N : Nat) : Prop where
  inv : Inv s N
  plc : 0 ≤ placeE s.es f
  mrk : s.mark ≤ 1000000
  hb : hasO s.os b = true
  room : s.os.length + 2 ≤ 32768
section
variable {s : St} {f b : Int} {N : Nat}
theorem RpI.new (h : RpI s f b N) : NewS s f ∧ Inv (newP s f) (s.os.length + 2) := new_ok h.inv h.room h.plc
theorem RpI.fill (h : RpI s f b N) : Inv (fillP s f b) (s.os.length + 2) := fillP_inv f b h.new.2
theorem RpI.plc2 (h : RpI s f b N) : 0 ≤ placeE (fillP s f b).es f := by rw [(fillP_as s f b).2.1]; exact h.plc
theorem RpI.mrk2 (h : RpI s f b N) : (fillP s f b).mark ≤ 1000000 := by rw [(fillP_as s f b).2.2.1]; exact h.mrk
theorem RpI.tok (_ : RpI s f b N) : tokE (fillP s f b).es f = tokE s.es f := by rw [(fillP_as s f b).2.1]
theorem RpI.drop (h : RpI s f b N) : Inv (dropP (fillP s f b) f) (s.os.length + 2) ∧ (dropP (fillP s f b) f).mark ≤ 1000000 ∧ (dropP (fillP s f b) f).es.length < 100000 := by
  refine ⟨h.fill.drop f, dropP_mark _ _ h.mrk2, ?_⟩
  have := delE_lt h.plc2
  have := h.fill.less
  unfold dropP
  simp only
  omega
theorem RpI.key (h : RpI s f b N) : keyAt (keysO (dropP (fillP s f b) f).os) (newI s f) = some ⟨1, 0, (tokE (fillP s f b).es f).name⟩ := by
  rw [h.tok]
  have e : keysO (dropP (fillP s f b) f).os = keysO (newP s f).os := (fillP_as s f b).2.2.2.keys
  rw [e]
  exact h.new.1.key
theorem RpI.none (h : RpI s f b N) : (tokE (fillP s f b).es f).attrs = [] ∧ longS (tokE (fillP s f b).es f).name = false := tok_none h.fill h.plc2
theorem RpI.enter (h : RpI s f b N) : Inv (enterP (dropP (fillP s f b) f) (newI s f) (tokE (fillP s f b).es f)) (s.os.length + 2) := h.drop.1.enter _ _ h.key h.none.2 h.none.1 h.drop.2.2
theorem RpI.leave (h : RpI s f b N) : Inv (leaveP (enterP (dropP (fillP s f b) f) (newI s f) (tokE (fillP s f b).es f)) f) (s.os.length + 2) := h.enter.leave f
theorem RpI.out (h : RpI s f b N) : Inv (replaceP s f b) (s.os.length + 2) ∧ (replaceP s f b).mark ≤ 1000000 ∧ s.os.length ≤ (replaceP s f b).os.length := by
  refine ⟨h.leave.stand _ _, h.drop.2.1, ?_⟩
  have e : (replaceP s f b).os.length = (newP s f).os.length := (fillP_as s f b).2.2.2.len
  rw [e]
  exact h.new.1.more.1
end
/-- What a round needs. -/
structure AdI (s : St) (f b : Int) (N : Nat) : Prop where
  inv : Inv s N
  plc : 0 ≤ placeE s.es f
  room : N + 8 ≤ 32768
  fin : f ∈ s.L.take (findM s.L b).toNat
  bin : b ∈ s.L
section
variable {s : St} {f b : Int} {N : Nat}
theorem AdI.mem (h : AdI s f b N) : f ∈ s.L := List.mem_of_mem_take h.fin
theorem AdI.find (h : AdI s f b N) : ∃ k : Nat, findM s.L b = (k : Int) ∧ k < s.L.length := by
  obtain ⟨k, h1, h2, _⟩ := findM_nat (L := s.L) (f := b) (by unfold findM; rw [if_pos h.bin]; omega)
  exact ⟨k, h1, h2⟩
theorem AdI.start (h : AdI s f b N) : RI f b N (findM s.L b).toNat 1 s.L s.os.length (markP s (placeE s.es f)) b := by
  obtain ⟨k, hk, hl⟩ := h.find
  have hfew := h.inv.few
  refine ⟨(h.inv.mark _).mono (by omega), by simp only [markP]; omega, h.plc, ?_, rfl, by rw [hk]; simp only [markP, Int.toNat_natCast]; omega, h.fin, hasO_el h.inv.good h.bin, hasO_el h.inv.good h.bin, Nat.le_refl _, h.inv.less⟩
  have := place_mk h.inv.less f
  simp only [markP]
  omega
theorem AdI.renew (h : AdI s f b N) : RX f b N s.os.length (renewF s f b).1 (renewF s f b).2 := renewP_ok h.room h.start
theorem AdI.move (h : AdI s f b N) (foster : Bool) : RpI (moveP (renewF s f b).1 (belowP s.L f) (renewF s f b).2 foster) f b (N + 6) := by
  have hx := h.renew
  have hl : (moveP (renewF s f b).1 (belowP s.L f) (renewF s f b).2 foster).os.length = (renewF s f b).1.os.length := putP_len _ _ _ _
  have hf := hx.inv.few
  have hr := h.room
  exact ⟨hx.inv.put _ _ _, hx.plc, hx.mrk, hasO_le (by rw [hl]; exact Nat.le_refl _) hx.hb, by rw [hl]; omega⟩
theorem AdI.out (h : AdI s f b N) (foster : Bool) : Inv (adoptP s f b foster) (N + 8) ∧ (adoptP s f b foster).mark ≤ 1000000 ∧ s.os.length ≤ (adoptP s f b foster).os.length := by
  have hm := (h.move foster).out
  have hf := (h.move foster).inv.few
  have hl : (moveP (renewF s f b).1 (belowP s.L f) (renewF s f b).2 foster).os.length = (renewF s f b).1.os.length := putP_len _ _ _ _
  refine ⟨hm.1.mono (by omega), hm.2.1, Nat.le_trans ?_ hm.2.2⟩
  rw [hl]
  exact h.renew.old
end
theorem specP_at (ks : List Key) (L : List Int) : ∀ (n i : Nat), specP ks L n i = -1 ∨ ∃ j : Nat, i ≤ j ∧ j < i + n ∧ specP ks L n i = atM L (j : Int)
  | 0, _ => .inl rfl
  | n + 1, i => by
    unfold specP
    split
    · exact .inr ⟨i, Nat.le_refl _, by omega, rfl⟩
    · rcases specP_at ks L n (i + 1) with e | ⟨j, h1, h2, h3⟩
      · exact .inl e
      · exact .inr ⟨j, by omega, by omega, h3⟩
theorem adI_of {s : St} {N : Nat} (h : Inv s N) (hN : N + 8 ≤ 32768) {f : Int} (hp : 0 ≤ placeE s.es f) (hf : 0 ≤ findM s.L f) (hb : blockP (keysO s.os) s.L f ≠ -1) : AdI s f (blockP (keysO s.os) s.L f) N := by
  obtain ⟨k, hk, hkl, hkf⟩ := findM_nat hf
  unfold blockP at hb ⊢
  rw [hk, Int.toNat_natCast] at hb ⊢
  rcases specP_at (keysO s.os) s.L (s.L.length - (k + 1)) (k + 1) with e | ⟨j, h1, h2, h3⟩
  · exact absurd e hb
  · rw [h3]
    have hj : j < s.L.length := by omega
    have hfj : findM s.L (atM s.L (j : Int)) = (j : Int) := by
      unfold findM
      rw [if_pos (mem_at hj), idx_at h.good.nodup hj]
    refine ⟨h, hp, hN, ?_, mem_at hj⟩
    rw [hfj, Int.toNat_natCast]
    exact List.mem_of_getElem? (i := k) (by rw [List.getElem?_take, if_pos (by omega)]; exact hkf)
theorem round_ok {s : St} {N : Nat} (h : Inv s N) (hN : N + 8 ≤ 32768) (hm : s.mark ≤ 1000000) (name : ByteArray) (foster : Bool) (errs : Int) : Inv (roundP name foster s errs).s (N + 8) ∧ (roundP name foster s errs).s.mark ≤ 1000000 ∧ errs ≤ (roundP name foster s errs).errs ∧ (roundP name foster s errs).errs ≤ errs + 1 := by
  have hm8 := h.mono (show N ≤ N + 8 by omega)
  unfold roundP
  split
  · exact ⟨hm8, hm, by simp only; omega, by simp only; omega⟩
  · rename_i h1
    split
    · exact ⟨hm8.drop _, dropP_mark _ _ hm, by simp only; omega, by simp only; omega⟩
    · rename_i h2
      split
      · exact ⟨hm8, hm, by simp only; omega, by simp only; omega⟩
      · split
        · refine ⟨(hm8.takeL _).drop _, dropP_mark _ _ hm, ?_, ?_⟩ <;> (simp only; split <;> omega)
        · rename_i h4
          have ha := (adI_of h hN (place_last h1) (by omega) h4).out foster
          refine ⟨ha.1, ha.2.1, ?_, ?_⟩ <;> (simp only; split <;> omega)
theorem rounds_ok (name : ByteArray) (foster : Bool) : ∀ (k : Nat) {s : St} {N : Nat}, Inv s N → N + 8 * k ≤ 32768 → s.mark ≤ 1000000 → ∀ (errs : Int), Inv (roundsP name foster k s errs).1 (N + 8 * k) ∧ errs ≤ (roundsP name foster k s errs).2.2 ∧ (roundsP name foster k s errs).2.2 ≤ errs + k
  | 0, s, N, h, _, _, errs => ⟨h, Int.le_refl _, by simp [roundsP]⟩
  | k + 1, s, N, h, hN, hm, errs => by
    have h1 := round_ok h (by omega) hm name foster errs
    unfold roundsP
    split
    · have h2 := rounds_ok name foster k h1.1 (by omega) h1.2.1 (roundP name foster s errs).errs
      refine ⟨h2.1.mono (by omega), ?_, ?_⟩
      · have := h2.2.1; omega
      · have := h2.2.2; have := h1.2.2.2; push_cast; omega
    · refine ⟨h1.1.mono (by omega), h1.2.2.1, ?_⟩
      have := h1.2.2.2
      simp only
      push_cast
      omega
end Go.Proofs.YtkakncngkmoegaaGreat

namespace Go.Proofs.YtkakncngkmoegaaGreat
open Go.RowKit Go.Sort

section
variable {w wx : World} {P : Pt} {s : St} {c : Ct} {rest : List (Ob w.heap.size)} {n : Nat}
theorem AE.sim (h : AE w wx P s c rest) : ∃ ns, Sim ns s.os := by
  obtain ⟨ns, F, h1, hs, h2⟩ := Env.a (i := 0) h rfl
  exact ⟨ns, hs⟩
theorem AE.kidsF (h : AE w wx P s c rest) (b : Int) : (kidsO s.os b).length ≤ s.os.length ∧ ∀ k ∈ kidsO s.os b, hasO s.os (k : Int) = true := by
  obtain ⟨ns, hs⟩ := h.sim
  cases hh : hasO s.os b with
  | false =>
    have e : kidsO s.os b = [] := by simp [kidsO, hh]
    rw [e]
    exact ⟨by simp, fun k hk => by simp at hk⟩
  | true =>
    have hk2 : 0 ≤ b ∧ b < s.os.length := by simpa [hasO] using hh
    obtain ⟨k, rfl⟩ : ∃ k : Nat, b = k := ⟨b.toNat, by omega⟩
    have ho : s.os[k]? = some s.os[k] := List.getElem?_eq_getElem (by omega)
    rw [kidsO_of ho]
    have hk := hs.kids k _ ho
    refine ⟨?_, fun j hj => ?_⟩
    · have := List.Nodup.length_le_of_subset hk.nodup (l₂ := List.range ns.length) (fun x hx => by simpa using hk.mem x hx)
      have hl := hs.len
      rw [List.length_range] at this
      omega
    · have := hk.mem j hj
      rw [hs.len] at this
      simp [hasO]
      omega
theorem outP_at {os : List OneM} {p : Nat} {o : OneM} (ho : os[p]? = some o) (q : Int) : spotV (outP os ((p : Int), q)).1 (outP os ((p : Int), q)).2 = if isOfO o [tmplB] then spotV o.inner (-1) else spotV p q := by
  unfold outP
  simp only
  rw [qK_of ho, innerO_of ho]
  split <;> rfl
theorem ae_spot (h : AE w wx P s c rest) (hi : Inv s n) {k : Nat} (hk : k < s.os.length) : Calls Tryz.prog 132 #[.pointer (some ⟨P.bA, 0, none⟩), .pointer (some ⟨P.bK, 0, none⟩), .int .i64 k, .bool P.foster] wx fun e w' => e = .returned (.tuple #[spotV (spotF s.os s.L (k : Int) P.foster).1 (spotF s.os s.L (k : Int) P.foster).2, .int .i64 0]) ∧ AE w w' P s c rest := by
  have ho : s.os[k]? = some s.os[k] := List.getElem?_eq_getElem hk
  obtain ⟨ns, hs⟩ := h.sim
  unfold spotF
  cases hfo : P.foster with
  | false =>
    simp only [Bool.false_eq_true, if_false]
    rw [outP_at ho]
    exact spot_plain (i := 0) (j := 1) h rfl rfl (by decide) hi.good ho
  | true =>
    simp only [if_true, Int.toNat_natCast]
    unfold spotP
    rw [qK_of ho]
    obtain ⟨p, q, hpq, hp⟩ : ∃ (p : Nat) (q : Int), (if isOfO s.os[k] partsB then progF s.os s.L (k : Int) else ((k : Int), -1)) = ((p : Int), q) ∧ p < s.os.length := by
      split
      · obtain ⟨_, p, hp, hpl⟩ := ways_same hs hi.good hi.one hk
        exact ⟨p, _, by rw [← hp], hpl⟩
      · exact ⟨k, -1, rfl, hk⟩
    have hoq : s.os[p]? = some s.os[p] := List.getElem?_eq_getElem hp
    rw [hpq, outP_at hoq]
    exact spot_foster (i := 0) (j := 1) h rfl rfl (by decide) hi.good ho hpq hoq
end
end Go.Proofs.YtkakncngkmoegaaGreat
