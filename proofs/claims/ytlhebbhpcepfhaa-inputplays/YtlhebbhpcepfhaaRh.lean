/-
  A call of a script, on both streams: Feed and Write; any call.
-/
import Derived.Test.YtlhebbhpcepfhaaRg
import Derived.Test.YtlhebbhpcepfhaaOa
import Derived.Deep.RegionHeld3
namespace Go.Proofs.Ytlhebbhpcepfhaa
open Go.RowKit

theorem step_part_append {w : World} {base : Nat} {p : PartM} {ops : Array Oper} {o : Oper} {act : Act} {K : Act → World → Prop} {Q : Exit → Act → World → Prop} {E : Prop} (hgd : o.guard = none) (s x : Operand)
    (ho : o.op = .call { callee := .builtin .append, args := #[s, x], argTypes := #[28, 28] }) (hs : act.eval s = p.val) (a : Option Addr) (l : List Int) (c : Nat) (hx : act.eval x = .slice a l.length c)
    (hp : PartAt w base p) (hb : base ≤ w.heap.size) (hl : RunesIn w a l) (hm : p.xs.length + l.length ≤ 35184372088832)
    (h : ∀ p' w', PartAt w' base p' → p'.xs = p.xs ++ l → w.grownBy w' p.own → K (act.put o.dst p'.val) w') :
    if Region.wanted o (yielded ops act.tmps) = true then Oper.wp Try.prog o act w K Q else E := by
  have hw : Region.wanted o (yielded ops act.tmps) = true := by simp [Region.wanted, hgd]
  rw [if_pos hw]
  obtain ⟨p', w', hr, h1, h2, h3, _, _⟩ := part_append hp hb o.type a l c hl hm
  exact Lib.wp_append_run w s x 28 28 ho _ _ hs hx _ _ hr (h p' w' h1 h2 h3)

section
variable {w wx W w3 : World} {obs : List (Ob w.heap.size)} {bS bW : Nat} {m : StrM}

/-- A copy that was just made. -/
structure Copied (wx w3 : World) (p : PartM) (l : List Int) : Prop where
  part : PartAt w3 wx.heap.size p
  xs : p.xs = l
  bel : Below wx.heap.size wx w3
theorem copied {p : PartM} {l : List Int} (hW : Below wx.heap.size wx W) (h1 : PartAt w3 wx.heap.size p) (h2 : p.xs = [] ++ l) (h3 : W.grownBy w3 none) : Copied wx w3 p l :=
  ⟨h1, h2, hW.trans ((Mod.grown (F := fun _ => False) h3 (fun k hk => by cases hk)).below hW.size (fun k hk => hk.elim))⟩
theorem Copied.env {p : PartM} {l : List Int} (h : Copied wx w3 p l) (hE : Env w wx obs) : Env w w3 obs := hE.more h.bel
theorem Copied.far {p : PartM} {l : List Int} {base : Nat} {F : Nat → Prop} (h : Copied wx w3 p l) (hE : StrS wx base bS m F) : ∀ b off, p.xs ≠ [] → p.a = some ⟨b, off, none⟩ → ¬ F b := by
  intro b off hx ha hk
  have h1 := (hE.lt hk).2
  have h2 := (h.part.own_lt (part_block h.part hx ha)).1
  omega
theorem env_feed_copy {p : PartM} {l : List Int} (h : Copied wx w3 p l) (hE : Env w wx obs) {i : Nat} (hi : obs[i]? = some (strOb _ bS m)) :
    Calls Try.prog 16 #[.pointer (some ⟨bS, 0, none⟩), p.val] w3 fun e w' => e = .returned (.int .i64 (feedM m l).1) ∧ Env w w' (obs.set i (strOb _ bS (feedM m l).2)) := by
  obtain ⟨F, h1, _, h3⟩ := hE.str hi
  have := feed_s (h1.below h.bel) p.a p.xs p.cap h.part.runes (h.far h1)
  rw [h.xs] at this
  have e : p.val = .slice p.a l.length p.cap := by rw [← h.xs]; rfl
  rw [e]
  exact this.mono fun _ _ ⟨a, b⟩ => ⟨a, h3 _ _ (b.after h.bel)⟩
theorem env_write_copy {p : PartM} {l : List Int} (h : Copied wx w3 p l) (hE : Env w wx obs) {i : Nat} (hi : obs[i]? = some (strOb _ bS m)) :
    Calls Try.prog 21 #[.pointer (some ⟨bS, 0, none⟩), p.val] w3 fun e w' => e = .returned (.int .i64 (writeM m l).1) ∧ Env w w' (obs.set i (strOb _ bS (writeM m l).2)) := by
  obtain ⟨F, h1, _, h3⟩ := hE.str hi
  have := write_s (h1.below h.bel) p.a p.xs p.cap h.part.runes (h.far h1)
  rw [h.xs] at this
  have e : p.val = .slice p.a l.length p.cap := by rw [← h.xs]; rfl
  rw [e]
  exact this.mono fun _ _ ⟨a, b⟩ => ⟨a, h3 _ _ (b.after h.bel)⟩

set_option maxHeartbeats 4000000 in
theorem play_0 (h : Env w wx [strOb _ bS m, refOb _ bW (refOf m)]) (a : Option Addr) (l : List Int) (c : Nat) (hr : RunesIn w a l) (hl : l.length ≤ 35184372087808) : Calls Try.prog 11 #[.pointer (some ⟨bS, 0, none⟩), .pointer (some ⟨bW, 0, none⟩), .agg #[.int .i64 0, .slice a l.length c]] wx fun e w' => e = .returned (.bool true) ∧ Env w w' [strOb _ bS (feedM m l).2, refOb _ bW (refOf (feedM m l).2)] := by
  have HF : Hid (Fits m) := hide (h.pos (i := 0) (bS := bS) rfl)
  have H0 := hide (boxed h (.int .i64 0) (.slice a l.length c) rfl)
  have HR := hide hr
  have HL := hide hl
  have hcell := ((unhide H0).box (i := 2) rfl).2
  clear h hr hl
  go_enter Try.func11, Try.ntmps11
  go_wp2_with fail
  go_region_held3 (fun w' => w'.cell? ⟨wx.heap.size, 1, none⟩ = some (.slice a l.length c)) (go_keep) (first
    | (go_at_call 16; refine (env_feed_copy (unhide HC) (unhide H0) (i := 0) (bS := bS) (m := m) rfl).mono ?_; rintro e w4 ⟨rfl, hv⟩; have H1 := hide hv; have hc4 := ((unhide H1).box (i := 2) rfl).2; clear hv)
    | (go_at_call 27; refine (env_rfeed (unhide H1) (i := 1) (bW := bW) (m := m) (unhide HF) rfl a l c (unhide HR) (unhide HL)).mono ?_; rintro e w5 ⟨rfl, hv⟩; have H2 := hide hv; have hc5 := ((unhide H2).box (i := 2) rfl).2; clear hv)
    | (refine step_part_append (base := (wx.alloc (.cells #[.int .i64 0, .slice a l.length c] 30)).heap.size) (p := ⟨some ⟨wx.heap.size + 1, 0, none⟩, 0, []⟩) (by rfl) _ _ (by rfl) (by rfl) a l c (by rfl) (PartAt.nil _ _ _) (by simp) ((unhide HR).below (((unhide H0).bel.alloc (unhide H0).bel.size _).drew)) (by have := unhide HL; simp; omega) ?_; intro p' w3 g1 g2 g3; have HC := hide (copied (wx := wx.alloc (.cells #[.int .i64 0, .slice a l.length c] 30)) (((Below.refl _ _).alloc (Nat.le_refl _) _).drew) g1 g2 g3); have hc3 := (((unhide HC).env (unhide H0)).box (i := 2) rfl).2; clear g1 g2 g3))
  all_goals (try go_wp2)
  all_goals go_ret
  all_goals exact ⟨by simp, (unhide H2).take 2⟩

set_option maxHeartbeats 4000000 in
theorem play_4 (h : Env w wx [strOb _ bS m, refOb _ bW (refOf m)]) (a : Option Addr) (l : List Int) (c : Nat) (hr : RunesIn w a l) (hl : l.length ≤ 35184372087808) : Calls Try.prog 11 #[.pointer (some ⟨bS, 0, none⟩), .pointer (some ⟨bW, 0, none⟩), .agg #[.int .i64 4, .slice a l.length c]] wx fun e w' => e = .returned (.bool true) ∧ Env w w' [strOb _ bS (writeM m l).2, refOb _ bW (refOf (writeM m l).2)] := by
  have HF : Hid (Fits m) := hide (h.pos (i := 0) (bS := bS) rfl)
  have H0 := hide (boxed h (.int .i64 4) (.slice a l.length c) rfl)
  have HR := hide hr
  have HL := hide hl
  have hcell := ((unhide H0).box (i := 2) rfl).2
  clear h hr hl
  go_enter Try.func11, Try.ntmps11
  go_wp2_with fail
  go_region_held3 (fun w' => w'.cell? ⟨wx.heap.size, 1, none⟩ = some (.slice a l.length c)) (go_keep) (first
    | (go_at_call 21; refine (env_write_copy (unhide HC) (unhide H0) (i := 0) (bS := bS) (m := m) rfl).mono ?_; rintro e w4 ⟨rfl, hv⟩; have H1 := hide hv; have hc4 := ((unhide H1).box (i := 2) rfl).2; clear hv)
    | (go_at_call 31; refine (env_rwrite (unhide H1) (i := 1) (bW := bW) (m := m) (unhide HF) rfl a l c (unhide HR)).mono ?_; rintro e w5 ⟨rfl, hv⟩; have H2 := hide hv; have hc5 := ((unhide H2).box (i := 2) rfl).2; clear hv)
    | (refine step_part_append (base := (wx.alloc (.cells #[.int .i64 4, .slice a l.length c] 30)).heap.size) (p := ⟨some ⟨wx.heap.size + 1, 0, none⟩, 0, []⟩) (by rfl) _ _ (by rfl) (by rfl) a l c (by rfl) (PartAt.nil _ _ _) (by simp) ((unhide HR).below (((unhide H0).bel.alloc (unhide H0).bel.size _).drew)) (by have := unhide HL; simp; omega) ?_; intro p' w3 g1 g2 g3; have HC := hide (copied (wx := wx.alloc (.cells #[.int .i64 4, .slice a l.length c] 30)) (((Below.refl _ _).alloc (Nat.le_refl _) _).drew) g1 g2 g3); have hc3 := (((unhide HC).env (unhide H0)).box (i := 2) rfl).2; clear g1 g2 g3))
  all_goals (try go_wp2)
  all_goals go_ret
  all_goals exact ⟨by simp, (unhide H2).take 2⟩

theorem play_any (h : Env w wx [strOb _ bS m, refOb _ bW (refOf m)]) (o : OpI) (hr : RunesIn w o.a o.l) (hl : o.l.length ≤ 35184372087808) : Calls Try.prog 11 #[.pointer (some ⟨bS, 0, none⟩), .pointer (some ⟨bW, 0, none⟩), .agg #[.int .i64 o.what, .slice o.a o.l.length o.cap]] wx fun e w' => e = .returned (.bool true) ∧ ∃ m', Env w w' [strOb _ bS m', refOb _ bW (refOf m')] := by
  obtain ⟨what, a, c, l⟩ := o
  simp only at hr hl ⊢
  by_cases e0 : what = 0
  · subst e0; exact (play_0 h a l c hr hl).mono fun e w' h => ⟨h.1, _, h.2⟩
  by_cases e1 : what = 1
  · subst e1; exact (play_1 h _).mono fun e w' h => ⟨h.1, _, h.2⟩
  by_cases e2 : what = 2
  · subst e2; exact (play_2 h _).mono fun e w' h => ⟨h.1, _, h.2⟩
  by_cases e3 : what = 3
  · subst e3; exact (play_3 h _).mono fun e w' h => ⟨h.1, _, h.2⟩
  by_cases e4 : what = 4
  · subst e4; exact (play_4 h a l c hr hl).mono fun e w' h => ⟨h.1, _, h.2⟩
  by_cases e5 : what = 5
  · subst e5; exact (play_5 h _).mono fun e w' h => ⟨h.1, _, h.2⟩
  by_cases e6 : what = 6
  · subst e6; exact (play_6 h _).mono fun e w' h => ⟨h.1, _, h.2⟩
  have nb : ∀ {k : Int}, ¬ what = k → (what == k) = false := fun h => beq_eq_false_iff_ne.2 h
  exact (play_7 h what (nb e0) (nb e1) (nb e2) (nb e3) (nb e4) (nb e5) (nb e6) _).mono fun e w' h => ⟨h.1, _, h.2⟩
end
end Go.Proofs.Ytlhebbhpcepfhaa
