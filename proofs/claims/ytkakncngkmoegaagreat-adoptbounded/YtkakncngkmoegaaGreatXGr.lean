import Derived.Test.YtkakncngkmoegaaGreatXGq
import Derived.Laws.EntriesVeiled
import Derived.Deep.AppendLies
/-
  The agency in memory: its struct, the row of what could be undone; beside its arena, stack and list.
-/
namespace Go.Proofs.YtkakncngkmoegaaGreat
open Go.RowKit Go.Sort

structure Pt where
  bA : Nat
  bK : Nat
  bL : Nat
  bG : Nat
  foster : Bool
structure Ct where
  another : Bool
  errs : Int
  cnt : Nat

def agCells (P : Pt) (m : Int) (c : Ct) (v : Value) : List Value := [.pointer (some ⟨P.bA, 0, none⟩), .pointer (some ⟨P.bK, 0, none⟩), .pointer (some ⟨P.bL, 0, none⟩), .bool P.foster, .bool c.another, .int .i64 c.errs, .int .i64 m, v]
structure AgM (w : World) (base : Nat) (P : Pt) (m : Int) (c : Ct) (v : Value) : Prop where
  box : w.heap[P.bG]? = some (.cells (agCells P m c v).toArray 86 (0, 0))
  own : ∃ n row, w.ownsRow base 1 1 v n row ∧ n ≤ c.cnt
  lo : base ≤ P.bG
def footG (bG : Nat) (v : Value) (k : Nat) : Prop := k = bG ∨ v.ownBlock = some k
def AgS (w : World) (base : Nat) (P : Pt) (m : Int) (c : Ct) (F : Nat → Prop) : Prop := ∃ v, AgM w base P m c v ∧ ∀ k, F k ↔ footG P.bG v k

section
variable {w w' : World} {base : Nat} {P : Pt} {m : Int} {c : Ct} {v : Value} {F G : Nat → Prop}
theorem AgM.lt (h : AgM w base P m c v) {k : Nat} (hk : footG P.bG v k) : base ≤ k ∧ k < w.heap.size := by
  rcases hk with rfl | hk
  · exact ⟨h.lo, lt_of_block h.box⟩
  · obtain ⟨n, row, ho, _⟩ := h.own
    exact ho.lt k hk
theorem AgM.mod (h : AgM w base P m c v) (hm : Mod G w w') (hG : ∀ k, footG P.bG v k → ¬ G k) : AgM w' base P m c v := by
  obtain ⟨n, row, ho, hn⟩ := h.own
  exact ⟨(hm.block P.bG (lt_of_block h.box) (hG P.bG (.inl rfl))).trans h.box, ⟨n, row, ownsRow_kept ho (fun k hk => hm.block k (ho.lt k hk).2 (hG k (.inr hk))), hn⟩, h.lo⟩
theorem AgM.apart (h : AgM w base P m c v) {k : Nat} (hk : v.ownBlock = some k) : k ≠ P.bG := by
  intro e
  obtain ⟨n, row, ho, _⟩ := h.own
  obtain ⟨cur, hc⟩ := ownsRow_block ho hk
  rw [e, h.box] at hc
  cases hc
theorem AgM.cells (h : AgM w base P m c v) : w.cell? ⟨P.bG, 0, none⟩ = some (.pointer (some ⟨P.bA, 0, none⟩)) ∧ w.cell? ⟨P.bG, 1, none⟩ = some (.pointer (some ⟨P.bK, 0, none⟩)) ∧ w.cell? ⟨P.bG, 2, none⟩ = some (.pointer (some ⟨P.bL, 0, none⟩)) ∧ w.cell? ⟨P.bG, 3, none⟩ = some (.bool P.foster) ∧ w.cell? ⟨P.bG, 4, none⟩ = some (.bool c.another) ∧ w.cell? ⟨P.bG, 5, none⟩ = some (.int .i64 c.errs) ∧ w.cell? ⟨P.bG, 6, none⟩ = some (.int .i64 m) ∧ w.cell? ⟨P.bG, 7, none⟩ = some v ∧ ∀ j, w.frozen? ⟨P.bG, j, none⟩ = false := by
  have hb := h.box
  unfold agCells at hb
  exact ⟨by simp [World.cell?, hb], by simp [World.cell?, hb], by simp [World.cell?, hb], by simp [World.cell?, hb], by simp [World.cell?, hb], by simp [World.cell?, hb], by simp [World.cell?, hb], by simp [World.cell?, hb], fun j => by simp [World.frozen?, hb]⟩
theorem AgS.lt (h : AgS w base P m c F) {k : Nat} (hk : F k) : base ≤ k ∧ k < w.heap.size := by
  obtain ⟨v, h, hF⟩ := h
  exact h.lt ((hF k).1 hk)
theorem AgS.mod (h : AgS w base P m c F) (hm : Mod G w w') (hG : ∀ k, F k → ¬ G k) : AgS w' base P m c F := by
  obtain ⟨v, h, hF⟩ := h
  exact ⟨v, h.mod hm (fun k hk => hG k ((hF k).2 hk)), hF⟩
end
def agOb (base : Nat) (P : Pt) (m : Int) (c : Ct) : Ob base := ⟨fun w F => AgS w base P m c F, fun _ _ _ h hk => h.lt hk, fun _ _ _ _ h hm hG => h.mod hm hG⟩

/-- An arena, a stack, a list and the agency over them; others beside. -/
def AE (w wx : World) (P : Pt) (s : St) (c : Ct) (rest : List (Ob w.heap.size)) : Prop := Env w wx (aO _ P.bA s.os :: stOb _ P.bK P.bA (keysO s.os) s.L :: liOb _ P.bL P.bA s.es :: agOb _ P s.mark c :: rest)

section
variable {w wx : World} {P : Pt} {s : St} {c : Ct} {rest : List (Ob w.heap.size)}
theorem AE.more {w2 : World} (h : AE w wx P s c rest) (hb : Below wx.heap.size wx w2) : AE w w2 P s c rest := Env.more h hb
theorem AE.boxed (h : AE w wx P s c rest) (cs : Array Value) (t : TypeId) : AE w (wx.alloc (.cells cs t)) P s c (rest ++ [blkOb _ wx.heap.size cs t]) := Env.boxed h cs t
theorem AE.block (h : AE w wx P s c rest) {i K : Nat} {cs : Array Value} {t : TypeId} (hi : rest[i]? = some (blkOb _ K cs t)) : wx.heap[K]? = some (.cells cs t (0, 0)) := Env.block (i := i + 4) h hi
theorem AE.take (h : AE w wx P s c rest) (n : Nat) : AE w wx P s c (rest.take n) := Env.take h (n + 4)
theorem AE.drop1 {x : Ob w.heap.size} (h : AE w wx P s c (rest ++ [x])) : AE w wx P s c rest := by
  have := h.take rest.length
  rwa [List.take_left'] at this
  rfl
theorem AE.ag (h : AE w wx P s c rest) : ∃ v, AgM wx w.heap.size P s.mark c v ∧ ∀ w2 m2 c2 v2, AgM w2 w.heap.size P m2 c2 v2 → Mod (footG P.bG v) wx w2 → (∀ k, footG P.bG v2 k → footG P.bG v k ∨ wx.heap.size ≤ k) → AE w w2 P ⟨s.os, s.L, s.es, m2⟩ c2 rest := by
  obtain ⟨F, ⟨v, ho, hF⟩, _, hk⟩ := Env.upd (i := 3) h rfl
  refine ⟨v, ho, fun w2 m2 c2 v2 h2 hm hf => ?_⟩
  exact hk w2 (agOb _ P m2 c2) (footG P.bG v2) ⟨v2, h2, fun _ => Iff.rfl⟩ (hm.mono fun k _ e => (hF k).2 e) (fun k hk => (hf k hk).imp (fun e => (hF k).2 e) id)
theorem AE.cells (h : AE w wx P s c rest) : wx.cell? ⟨P.bG, 0, none⟩ = some (.pointer (some ⟨P.bA, 0, none⟩)) ∧ wx.cell? ⟨P.bG, 1, none⟩ = some (.pointer (some ⟨P.bK, 0, none⟩)) ∧ wx.cell? ⟨P.bG, 2, none⟩ = some (.pointer (some ⟨P.bL, 0, none⟩)) ∧ wx.cell? ⟨P.bG, 3, none⟩ = some (.bool P.foster) ∧ wx.cell? ⟨P.bG, 4, none⟩ = some (.bool c.another) ∧ wx.cell? ⟨P.bG, 5, none⟩ = some (.int .i64 c.errs) ∧ wx.cell? ⟨P.bG, 6, none⟩ = some (.int .i64 s.mark) := by
  obtain ⟨v, h, _⟩ := h.ag
  obtain ⟨c0, c1, c2, c3, c4, c5, c6, _, _⟩ := h.cells
  exact ⟨c0, c1, c2, c3, c4, c5, c6⟩
theorem AE.free (h : AE w wx P s c rest) (j : Nat) : wx.frozen? ⟨P.bG, j, none⟩ = false := by
  obtain ⟨v, h, _⟩ := h.ag
  exact h.cells.2.2.2.2.2.2.2.2 j
/-- A cell of the struct is written. -/
theorem AE.poke (h : AE w wx P s c rest) (j : Nat) (u : Value) (m2 : Int) (c2 : Ct) (hj : ∀ v, ((agCells P s.mark c v).set j u) = agCells P m2 c2 v) (hc : c.cnt ≤ c2.cnt) : AE w (wx.setCell ⟨P.bG, j, none⟩ u) P ⟨s.os, s.L, s.es, m2⟩ c2 rest := by
  obtain ⟨v, hm, hk⟩ := h.ag
  have hlt := lt_of_block hm.box
  refine hk _ m2 c2 v ⟨?_, ?_, hm.lo⟩ (Mod.setCell (F := footG P.bG v) wx ⟨P.bG, j, none⟩ u (.inl rfl)) (fun k e => .inl e)
  · have := heap_setCell_same wx P.bG j (agCells P s.mark c v).toArray 86 u hm.box
    rw [this]
    congr 2
    have e := hj v
    rw [← e]
    simp
  · obtain ⟨n, row, ho, hn⟩ := hm.own
    exact ⟨n, row, ownsRow_setCell_other ho (fun e => hm.apart e rfl) _, Nat.le_trans hn hc⟩
theorem AE.setMark (h : AE w wx P s c rest) (m2 : Int) : AE w (wx.setCell ⟨P.bG, 6, none⟩ (.int .i64 m2)) P (markP s m2) c rest := h.poke 6 _ m2 c (fun _ => rfl) (Nat.le_refl _)
theorem AE.setErrs (h : AE w wx P s c rest) (e2 : Int) : AE w (wx.setCell ⟨P.bG, 5, none⟩ (.int .i64 e2)) P s ⟨c.another, e2, c.cnt⟩ rest := h.poke 5 _ s.mark ⟨c.another, e2, c.cnt⟩ (fun _ => rfl) (Nat.le_refl _)
theorem AE.setAnother (h : AE w wx P s c rest) (b : Bool) : AE w (wx.setCell ⟨P.bG, 4, none⟩ (.bool b)) P s ⟨b, c.errs, c.cnt⟩ rest := h.poke 4 _ s.mark ⟨b, c.errs, c.cnt⟩ (fun _ => rfl) (Nat.le_refl _)
theorem AE.cnt (h : AE w wx P s c rest) (n : Nat) (hn : c.cnt ≤ n) : AE w wx P s ⟨c.another, c.errs, n⟩ rest := by
  obtain ⟨v, hm, hk⟩ := h.ag
  obtain ⟨k, row, ho, h2⟩ := hm.own
  exact hk wx s.mark ⟨c.another, c.errs, n⟩ v ⟨hm.box, ⟨k, row, ho, Nat.le_trans h2 hn⟩, hm.lo⟩ (Mod.of_below (Below.refl _ _)) (fun k e => .inl e)
end

theorem Tryz.info1 : (Tryz.prog.info? 1).map (fun i => (i.zero, i.size, i.bytes)) = some (some .nilFunc, 1, 8) := by kernel_rfl
section
variable {w wx : World} {P : Pt} {s : St} {c : Ct} {rest : List (Ob w.heap.size)}
theorem changed_no (h : AE w wx P s c rest) (e : Int) (he : e ≠ 0) (u : Value) : Calls Tryz.prog 124 #[.pointer (some ⟨P.bG, 0, none⟩), .int .i64 e, u] wx fun r w' => r = .returned (.tuple #[]) ∧ AE w w' P s c rest := by
  have HE := hide h
  have he2 : (e == 0) = false := by simpa using he
  clear h
  go_enter Tryz.func124, Tryz.ntmps124
  go_wp2
  exact ⟨rfl, _, results_none rfl _ _ _, rfl, unhide HE⟩
set_option maxHeartbeats 2000000 in
theorem changed_yes (h : AE w wx P s c rest) (hl : c.cnt < 1000000000) (fn : Fn) (fi ca : Array Value) : Calls Tryz.prog 124 #[.pointer (some ⟨P.bG, 0, none⟩), .int .i64 0, .func fn fi ca] wx fun r w' => r = .returned (.tuple #[]) ∧ AE w w' P s ⟨c.another, c.errs, c.cnt + 1⟩ rest := by
  obtain ⟨v, hm, hk⟩ := h.ag
  have hlow := h.bel.size
  obtain ⟨n, row, hown, hn⟩ := hm.own
  obtain ⟨_, _, _, _, _, _, _, c7, ff⟩ := hm.cells
  have f7 := ff 7
  have hlt := lt_of_block hm.box
  obtain ⟨i0, hi0, hz0, hz1, hz2⟩ := info_parts Tryz.info1
  have HOW := hide (fun (o : Obj) => hown.alloc o)
  have HN := hide (show n < 1000000000 by omega)
  have HB := hide hlow
  have HGR : Hid (∀ (o : Obj) (w1 : World) (v' : Value), w1.ownsRow w.heap.size 1 1 v' (n + 1) (row ++ [.func fn fi ca]) → (wx.alloc o).grownBy w1 v.ownBlock → (∀ k, v'.ownBlock = some k → v.ownBlock = some k ∨ k = wx.heap.size + 1) → AE w (w1.setCell ⟨P.bG, 7, none⟩ v') P s ⟨c.another, c.errs, c.cnt + 1⟩ rest ∧ w1.cell? ⟨P.bG, 7, none⟩ = some v ∧ w1.frozen? ⟨P.bG, 7, none⟩ = false) := hide (fun o w1 v' hown1 hg hv => by
    have hb : Below wx.heap.size wx (wx.alloc o) := below_newAc wx o
    have hm1 : Mod (footG P.bG v) wx w1 := (Mod.of_below hb).trans (Mod.grown hg (fun k e => .inr e))
    have hbq : w1.heap[P.bG]? = some (.cells (agCells P s.mark c v).toArray 86 (0, 0)) := by
      have hmg : Mod (fun k => v.ownBlock = some k) (wx.alloc o) w1 := Mod.grown hg (fun k e => e)
      exact (hmg.block P.bG (Nat.lt_of_lt_of_le hlt hb.size) (fun e => hm.apart e rfl)).trans ((hb.block _ hlt).trans hm.box)
    have hne : ∀ k, v'.ownBlock = some k → k ≠ P.bG := fun k hk => by
      rcases hv k hk with e | e
      · exact hm.apart e
      · omega
    refine ⟨hk _ s.mark ⟨c.another, c.errs, c.cnt + 1⟩ v' ⟨?_, ⟨n + 1, _, ownsRow_setCell_other hown1 (fun e => hne _ e rfl) _, by simp only; omega⟩, hm.lo⟩ (hm1.trans (Mod.setCell _ _ _ (.inl rfl))) ?_, ?_, by simp [World.frozen?, hbq]⟩
    · have := heap_setCell_same w1 P.bG 7 (agCells P s.mark c v).toArray 86 v' hbq
      rw [this]
      simp [agCells]
    · rintro k (rfl | hk2)
      · exact .inl (.inl rfl)
      · rcases hv k hk2 with e | e
        · exact .inl (.inr e)
        · exact .inr (by omega)
    · unfold agCells at hbq
      simp [World.cell?, hbq])
  have HNW : Hid (∀ (j : Nat) (u : Value), [Value.func fn fi ca][j]? = some u → (wx.alloc (.cells [Value.func fn fi ca].toArray 1)).cell? ((⟨wx.heap.size, 0, none⟩ : Addr).add j) = some u) := hide (World.news_of_block (w := wx.alloc (.cells [Value.func fn fi ca].toArray 1)) (B := wx.heap.size) (t := 1) (fr := (0, 0)) (heap_alloc_new wx _))
  clear h hm hk hown hn hl hlow hlt ff
  go_enter Tryz.func124, Tryz.ntmps124
  go_wp2_with (at_builtin; go_must (refine wpList_append_lies _ (by rfl) _ _ 84 (by rfl) w.heap.size 1 i0 _ 1 8 (by kernel_rfl) hi0 hz0 hz1 hz2 rfl (by omega) v n row (by rfl) ((unhide HOW) _) ⟨wx.heap.size, 0, none⟩ 1 1 [.func fn fi ca] (by rfl) (by rfl) (by exact unhide HNW) (by simp [Value.oneCell']) (by omega) (by have := unhide HN; unfold maxLen; omega) (by have := unhide HN; omega) (by have := unhide HB; simp; omega) (wx.heap.size + 1) (by simp) ?_); intro g' cap' w1 hown1 hgrow hat hltg; obtain ⟨hu, d1, d2⟩ := (unhide HGR) _ w1 _ hown1 hgrow (fun k e => by simp only [Value.ownBlock, Option.some.injEq] at e; subst e; exact hat); have HU := hide hu; clear hown1 hgrow hat hltg hu c7 f7)
  exact ⟨rfl, _, results_none rfl _ _ _, rfl, unhide HU⟩
/-- What could be undone is written down, or there is nothing to undo. -/
theorem changed_any (h : AE w wx P s c rest) (hl : c.cnt < 1000000000) (e : Int) (fn : Fn) (fi ca : Array Value) : Calls Tryz.prog 124 #[.pointer (some ⟨P.bG, 0, none⟩), .int .i64 e, .func fn fi ca] wx fun r w' => r = .returned (.tuple #[]) ∧ AE w w' P s ⟨c.another, c.errs, c.cnt + 1⟩ rest := by
  by_cases he : e = 0
  · subst he; exact changed_yes h hl fn fi ca
  · exact (changed_no h e he _).mono fun _ _ ⟨a, b⟩ => ⟨a, b.cnt _ (Nat.le_succ _)⟩
end
end Go.Proofs.YtkakncngkmoegaaGreat
