/-
  StackPlays' walk, over whatever play does. StackPlays' walk.
-/
import Derived.Deep.RegionHeld3
import Derived.Test.YtmllhebmaldgfaaQRw
import Derived.Test.YtmllhebmaldgfaaQRt
import Derived.Test.YtmllhebmaldgfaaQRu
import Derived.Test.YtmllhebmaldgfaaZQRv
import Derived.Test.YtmllhebmaldgfaaQRx
import Derived.Test.YtmllhebmaldgfaaQRy
import Derived.Test.YtmllhebmaldgfaaQRz
namespace Go.Proofs.Ytmllhebmaldgfaa
open Go.RowKit

def SpK (ks : List Key) : Prop := ∀ q, q ∈ ks → q.kind = 1 → q.space = 0 ∨ q.space = 1 ∨ q.space = 2
theorem SpK.add {ks : List Key} (h : SpK ks) {q : Key} (hq : q.kind = 1 → q.space = 0 ∨ q.space = 1 ∨ q.space = 2) : SpK (addK ks q).1 := by
  unfold addK
  split
  · intro x hx
    rcases List.mem_append.1 hx with e | e
    · exact h x e
    · simp at e; subst e; exact hq
  · exact h
theorem SpK.elem {ks : List Key} (h : SpK ks) (s : Int) (n : ByteArray) : SpK (elemK ks s n).1 := by
  unfold elemK
  split
  · exact h
  · split
    · exact h
    · split
      · split
        · intro x hx
          rcases List.mem_append.1 hx with e | e
          · exact h x e
          · simp at e
            rcases e with rfl | rfl
            · intro _
              show s = 0 ∨ s = 1 ∨ s = 2
              omega
            · intro e
              cases e
        · exact h
      · exact h.add (fun _ => by show s = 0 ∨ s = 1 ∨ s = 2; omega)
theorem SpK.of (l : List Cal) : ∀ ks, SpK ks → SpK (ksOf ks l) := by
  induction l with
  | nil => exact fun ks h => h
  | cons c l ih => exact fun ks h => ih _ (h.elem c.space c.name)
theorem SpK.ksL (l : List Cal) : SpK (ksL l) := by
  unfold Go.Proofs.Ytmllhebmaldgfaa.ksL textK
  have h0 : SpK (ksOf [⟨0, 0, emptyS⟩] (l.take 300)) := SpK.of _ _ (fun q hq e => by
    simp at hq
    subst hq
    cases e)
  split
  · exact h0
  · exact h0.add (fun e => by cases e)
theorem SpK.el {ks : List Key} (h : SpK ks) (id : Int) (c : Cal) (hc : elOf ks id = some c) : c.space = 0 ∨ c.space = 1 ∨ c.space = 2 := by
  cases hk : keyAt ks id with
  | none => rw [elOf_none hk] at hc; cases hc
  | some q =>
    have e := elOf_key hk
    rw [hc] at e
    split at e
    · cases e
      obtain ⟨i, rfl, hi⟩ := keyAt_some hk
      exact h q (List.mem_of_getElem? hi) (by assumption)
    · cases e

section
variable {w wx w1 : World} {bA bR bK bW : Nat} {ks : List Key} {L : List Int}
theorem e4_more (h : E4 w wx bA bR bK bW ks L L) (hb : Below wx.heap.size wx w1) : E4 w w1 bA bR bK bW ks L L := Env.more h hb
theorem e4_bel (h : E4 w wx bA bR bK bW ks L L) : Below w.heap.size w wx := Env.bel h
theorem e4_find (h : E4 w wx bA bR bK bW ks L L) (hg : Good ks L) (x : Int) : Calls Try.prog 13 #[.pointer (some ⟨bK, 0, none⟩), .int .i64 x] wx fun e w' => e = .returned (.int .i64 (findM L x)) ∧ E4 w w' bA bR bK bW ks L L :=
  (env_find (show Env w wx _ from h) (i := 0) (j := 2) (bK := bK) (bA := bA) (ks := ks) (L := L) rfl rfl (by decide) hg x).mono fun _ _ ⟨a, b⟩ => ⟨a, b ▸ h⟩
theorem e4_rfind (h : E4 w wx bA bR bK bW ks L L) (hg : Good ks L) (x : Int) : Calls Try.prog 14 #[.pointer (some ⟨bW, 0, none⟩), .int .i64 x] wx fun e w' => e = .returned (.int .i64 (findM L x)) ∧ E4 w w' bA bR bK bW ks L L :=
  (env_rfind (show Env w wx _ from h) (i := 1) (j := 3) (bW := bW) (bR := bR) (ks := ks) (L := L) rfl rfl (by decide) hg x).mono fun _ _ ⟨a, b⟩ => ⟨a, b ▸ h⟩
theorem e4_same (h : E4 w wx bA bR bK bW ks L L) (hg : Good ks L) : Calls Try.prog 15 #[.pointer (some ⟨bK, 0, none⟩), .pointer (some ⟨bW, 0, none⟩)] wx fun e w' => e = .returned (.bool true) ∧ E4 w w' bA bR bK bW ks L L := same_any h hg
theorem e4_awake (h : E4 w wx bA bR bK bW ks L L) : Calls Try.prog 16 #[] wx fun e w' => e = .returned (.bool true) ∧ E4 w w' bA bR bK bW ks L L := env_awake h
end

/-- Whatever play does: both answer the same, and have the same elements after it. -/
def PlayIs (w : World) (bA bR bK bW : Nat) (ks : List Key) : Prop := ∀ wx L (o : OpM), Good ks L → E4 w wx bA bR bK bW ks L L →
  Calls Try.prog 12 #[.pointer (some ⟨bK, 0, none⟩), .pointer (some ⟨bW, 0, none⟩), .agg #[.int .i64 o.what, .int .i64 o.a, .int .i64 o.old, .int .i64 o.n, .string o.text]] wx fun e w' => e = .returned (.bool true) ∧ ∃ L2, Good ks L2 ∧ E4 w w' bA bR bK bW ks L2 L2

set_option maxRecDepth 100000 in
set_option maxHeartbeats 16000000 in
theorem plays_of (l : List Cal) (a0 : Option Addr) (cap0 : Nat) (ops : List OpM) (a1 : Option Addr) (cap1 : Nat) (w : World) (hin : ElsIn w a0 l) (hl : l.length ≤ 140737488351232) (hop : OpsIn w a1 ops) (hol : ops.length ≤ 140737488351232) (hpl : ∀ bA bR bK bW, PlayIs w bA bR bK bW (ksL l)) :
    Calls Try.prog 3 #[.slice a0 l.length cap0, .slice a1 ops.length cap1] w fun e w' => e = .returned (.bool true) ∧ Below w.heap.size w w' := by
  have HAR := hide (arenas_any w a0 l cap0 hin hl)
  have HPP := hide hpl
  have HOP := hide hop
  generalize ksL l = ks at *
  generalize l.length = ll at *
  have hoz : (ops.length : Int) ≤ 140737488351232 := by omega
  have hund : undef = Value.tuple #[] := rfl
  clear hin hl hpl hop hol
  go_enter Try.func3, Try.ntmps3
  go_wp2_with (first
    | (go_at_call 9; refine (unhide HAR).mono ?_; rintro e w1 ⟨bA, bR, rfl, hv⟩; have H1 := hide hv; clear hv)
    | (go_at_call 10; refine (env_snew (unhide H1) (i := 0) (bA := bA) rfl).mono ?_; rintro e w2 ⟨bK, rfl, hv⟩; have H2 := hide hv; clear hv)
    | (go_at_call 11; refine (env_rsnew (unhide H2) bR).mono ?_; rintro e w3 ⟨bW, rfl, hv⟩; have H3 := hide hv; clear hv))
  have HPL := hide ((unhide HPP) bA bR bK bW)
  go_loopg [10] ops.length (fun g s10 wr => ∃ i : Nat, s10 = .int .i64 (i : Int) ∧ i + g = ops.length ∧ ∃ L, Good ks L ∧ E4 w wr bA bR bK bW ks L L)
  case atStart => exact ⟨0, rfl, by omega, [], Good.nil _, unhide H3⟩
  case round =>
    obtain ⟨i, rfl, hig, L, hg, he⟩ := hrel
    have HV := hide he
    have HG := hide hg
    have HIG := hide hig
    by_cases hi : i < ops.length
    · have hiz : (i : Int) < (ops.length : Int) := by omega
      obtain ⟨o, ho⟩ : ∃ o, ops[i]? = some o := ⟨_, List.getElem?_eq_getElem hi⟩
      obtain ⟨b, off, rfl, _⟩ := (unhide HOP).cells i o ho
      have HC : Hid (∀ wx, Below w.heap.size w wx → wx.cell? ⟨b, off + i * 5, none⟩ = some (.int .i64 o.what) ∧ wx.cell? ⟨b, off + i * 5 + 1, none⟩ = some (.int .i64 o.a) ∧ wx.cell? ⟨b, off + i * 5 + 2, none⟩ = some (.int .i64 o.old) ∧ wx.cell? ⟨b, off + i * 5 + 3, none⟩ = some (.int .i64 o.n) ∧ wx.cell? ⟨b, off + i * 5 + 4, none⟩ = some (.string o.text)) := hide (fun wx hb => by
        obtain ⟨b', off', e, c0, c1, c2, c3, c4⟩ := ((unhide HOP).below hb).cells i o ho
        cases e
        exact ⟨c0, c1, c2, c3, c4⟩)
      obtain ⟨wh, oa, oo, on, ot⟩ := o
      simp only at HC
      obtain ⟨q0, q1, q2, q3, q4⟩ := (unhide HC) wr (e4_bel he)
      have HI := hide hi
      generalize ops.length = no at *
      clear he hg hig ho hi
      by_cases h3 : i < 300
      · have h3z : (i : Int) < 300 := by omega
        clear h3
        go_wp2_with fail
        first | go_region_held3 (fun W' => W'.cell? ⟨b, off + i * 5, none⟩ = some (.int .i64 wh) ∧ W'.cell? ⟨b, off + i * 5 + 1, none⟩ = some (.int .i64 oa) ∧ W'.cell? ⟨b, off + i * 5 + 2, none⟩ = some (.int .i64 oo) ∧ W'.cell? ⟨b, off + i * 5 + 3, none⟩ = some (.int .i64 on) ∧ W'.cell? ⟨b, off + i * 5 + 4, none⟩ = some (.string ot)) (first | exact (unhide HC) w5 (e4_bel (unhide HV5)) | exact (unhide HC) w4 (e4_bel (unhide HV4)) | exact (unhide HC) w3 (e4_bel (unhide HV3)) | exact (unhide HC) w2 (e4_bel (unhide HV2)) | exact (unhide HC) wr (e4_bel (unhide HV))) (first | (go_at_call 12; refine ((unhide HPL) _ L ⟨wh, oa, oo, on, ot⟩ (unhide HG) (by first | exact unhide HV | exact e4_more (unhide HV) (Below.refl _ _).drew | exact e4_more (unhide HV) (below_dn (Below.refl _ _) _) | exact e4_more (unhide HV) (Below.refl _ _).drew.drew)).mono ?_; rintro e w2 ⟨rfl, L2, hg2, he⟩; have HG2 := hide hg2; have HV2 := hide he; clear hg2 he) | (go_at_call 13; refine (e4_find (L := L2) (by first | exact unhide HV2 | exact e4_more (unhide HV2) (Below.refl _ _).drew | exact e4_more (unhide HV2) (below_dn (Below.refl _ _) _) | exact e4_more (unhide HV2) (Below.refl _ _).drew.drew) (unhide HG2) _).mono ?_; rintro e w3 ⟨rfl, he⟩; have HV3 := hide he; clear he) | (go_at_call 14; refine (e4_rfind (L := L2) (by first | exact unhide HV3 | exact e4_more (unhide HV3) (Below.refl _ _).drew | exact e4_more (unhide HV3) (below_dn (Below.refl _ _) _) | exact e4_more (unhide HV3) (Below.refl _ _).drew.drew) (unhide HG2) _).mono ?_; rintro e w4 ⟨rfl, he⟩; have HV4 := hide he; clear he) | (go_at_call 15; refine (e4_same (L := L2) (by first | exact unhide HV4 | exact e4_more (unhide HV4) (Below.refl _ _).drew | exact e4_more (unhide HV4) (below_dn (Below.refl _ _) _) | exact e4_more (unhide HV4) (Below.refl _ _).drew.drew) (unhide HG2)).mono ?_; rintro e w5 ⟨rfl, he⟩; have HV5 := hide he; clear he)) | fail
        all_goals go_wp2
        all_goals go_roundg (gk - 1)
        all_goals first
          | exact ⟨i + 1, by go_num, by have := unhide HIG; have := unhide HI; omega, L2, unhide HG2, (by first | exact unhide HV5 | exact e4_more (unhide HV5) (Below.refl _ _).drew | exact e4_more (unhide HV5) (below_dn (Below.refl _ _) _))⟩
          | (have := unhide HIG; have := unhide HI; omega)
      · have h3z : ¬ (i : Int) < 300 := by omega
        have h3d : decide ((i : Int) < 300) = false := decide_eq_false h3z
        clear h3
        go_wp2_with fail
        refine wp_region_any (by kernel_rfl) ?_
        try (change wpAny _ _ _ _ _ _ _ (World.drew _))
        refine wpAny_take (i := 0) (oi := ({ dst := some 37, op := Op.move (Operand.tmp 7), type := 28, pos := _, after := #[], guard := none } : Oper)) (v := ?_) rfl (by kernel_rfl) (by kernel_rfl) (by kernel_rfl) (fun _ _ _ h => h) (Or.inl ⟨by rfl, ?_⟩) ?_
        rotate_left
        · first | (intro W0; go_simp; done) | (intro W0; go_simp; with_reducible rfl) | (intro W0; rfl)
        (try simp only [Act.put]); (try simp only [List.setIfInBounds_toArray]); (try simp only [List.set_cons_succ]); (try simp only [List.set_cons_zero])
        refine wpAny_take (i := 1) (oi := ({ dst := some 38, op := Op.move (Operand.tmp 9), type := 32, pos := _, after := #[], guard := none } : Oper)) (v := ?_) rfl (by kernel_rfl) (by kernel_rfl) (by kernel_rfl) (fun _ _ _ h => h) (Or.inl ⟨by rfl, ?_⟩) ?_
        rotate_left
        · first | (intro W0; go_simp; done) | (intro W0; go_simp; with_reducible rfl) | (intro W0; rfl)
        (try simp only [Act.put]); (try simp only [List.setIfInBounds_toArray]); (try simp only [List.set_cons_succ]); (try simp only [List.set_cons_zero])
        refine wpAny_take (i := 2) (oi := ({ dst := some 39, op := Op.move (Operand.tmp 1), type := 23, pos := _, after := #[], guard := none } : Oper)) (v := ?_) rfl (by kernel_rfl) (by kernel_rfl) (by kernel_rfl) (fun _ _ _ h => h) (Or.inl ⟨by rfl, ?_⟩) ?_
        rotate_left
        · first | (intro W0; go_simp; done) | (intro W0; go_simp; with_reducible rfl) | (intro W0; rfl)
        (try simp only [Act.put]); (try simp only [List.setIfInBounds_toArray]); (try simp only [List.set_cons_succ]); (try simp only [List.set_cons_zero])
        refine wpAny_take (i := 3) (oi := ({ dst := some 40, op := Op.move (Operand.tmp 10), type := 3, pos := _, after := #[], guard := none } : Oper)) (v := ?_) rfl (by kernel_rfl) (by kernel_rfl) (by kernel_rfl) (fun _ _ _ h => h) (Or.inl ⟨by rfl, ?_⟩) ?_
        rotate_left
        · first | (intro W0; go_simp; done) | (intro W0; go_simp; with_reducible rfl) | (intro W0; rfl)
        (try simp only [Act.put]); (try simp only [List.setIfInBounds_toArray]); (try simp only [List.set_cons_succ]); (try simp only [List.set_cons_zero])
        refine wpAny_ready (rs := [4]) (by kernel_rfl) (by simp) ?_
        refine AllReady.cons (o := ({ dst := some 41, op := Op.indexAddr 23 (Operand.tmp 39) (Operand.tmp 40), type := 0, pos := _, after := #[{ on := 2, ground := Ground.data }, { on := 3, ground := Ground.data }], guard := none } : Oper)) rfl (fun K hK => ?_) AllReady.nil
        go_simp
        refine hK _ _ ?_
        clear hK K
        (try simp only [Act.put]); (try simp only [List.setIfInBounds_toArray]); (try simp only [List.set_cons_succ]); (try simp only [List.set_cons_zero])
        refine wpAny_ready (rs := [5]) (by kernel_rfl) (by simp) ?_
        refine AllReady.cons (o := ({ dst := some 42, op := Op.load 36 (Operand.tmp 41), type := 36, pos := _, after := #[{ on := 4, ground := Ground.data }], guard := none } : Oper)) rfl (fun K hK => ?_) AllReady.nil
        go_simp
        refine hK _ _ ?_
        clear hK K
        (try simp only [Act.put]); (try simp only [List.setIfInBounds_toArray]); (try simp only [List.set_cons_succ]); (try simp only [List.set_cons_zero])
        refine wpAny_ready (rs := [6]) (by kernel_rfl) (by simp) ?_
        refine AllReady.cons (o := ({ dst := some 43, op := Op.call { callee := Callee.value (Operand.func 12), args := #[Operand.tmp 37, Operand.tmp 38, Operand.tmp 42], argTypes := #[28, 32, 36] }, type := 4, pos := _, after := #[{ on := 0, ground := Ground.data }, { on := 1, ground := Ground.data }, { on := 5, ground := Ground.data }], guard := none } : Oper)) rfl (fun K hK => ?_) AllReady.nil
        go_simp
        (go_at_call 12; refine ((unhide HPL) _ L ⟨wh, oa, oo, on, ot⟩ (unhide HG) (by with_reducible (first | exact unhide HV | exact e4_more (unhide HV) (Below.refl _ _).drew | exact e4_more (unhide HV) (Below.refl _ _).drew.drew))).mono ?_; rintro e w2 ⟨rfl, L2, hg2, he⟩; have HG2 := hide hg2; have HV2 := hide he; have hS2 := ((unhide HC) w2 (e4_bel he)).2.1; clear hg2 he)
        refine hK _ _ ?_
        clear hK K
        (try simp only [Act.put]); (try simp only [List.setIfInBounds_toArray]); (try simp only [List.set_cons_succ]); (try simp only [List.set_cons_zero])
        refine wpAny_of_held (S := (fun W' => W'.cell? ⟨b, off + i * 5 + 1, none⟩ = some (.int .i64 oa))) _ _ _ _ ?_
        refine wpAnyH_take (i := 7) (oi := ({ dst := some 44, op := Op.unOp UnOp.not 4 (Operand.tmp 43), type := 4, pos := _, after := #[{ on := 6, ground := Ground.data }], guard := none } : Oper)) (v := ?_) rfl (by kernel_rfl) (by kernel_rfl) (by kernel_rfl) (fun _ _ _ h => h) (Or.inl ⟨by rfl, ?_⟩) (by assumption) ?_
        rotate_left
        · first | (intro W0 hSw; (try dsimp only at hSw); go_simp; done) | (intro W0 hSw; (try dsimp only at hSw); go_simp; with_reducible rfl) | (intro W0 hSw; (try dsimp only at hSw); rfl)
        (try simp only [Act.put]); (try simp only [List.setIfInBounds_toArray]); (try simp only [List.set_cons_succ]); (try simp only [List.set_cons_zero])
        refine wpAnyH_take (i := 8) (oi := ({ dst := some 45, op := Op.move (Operand.tmp 44), type := 4, pos := _, after := #[{ on := 7, ground := Ground.data }, { on := 6, ground := Ground.chain }], guard := none } : Oper)) (v := ?_) rfl (by kernel_rfl) (by kernel_rfl) (by kernel_rfl) (fun _ _ _ h => h) (Or.inl ⟨by rfl, ?_⟩) (by assumption) ?_
        rotate_left
        · first | (intro W0 hSw; (try dsimp only at hSw); go_simp; done) | (intro W0 hSw; (try dsimp only at hSw); go_simp; with_reducible rfl) | (intro W0 hSw; (try dsimp only at hSw); rfl)
        (try simp only [Act.put]); (try simp only [List.setIfInBounds_toArray]); (try simp only [List.set_cons_succ]); (try simp only [List.set_cons_zero])
        refine wpAnyH_take (i := 9) (oi := ({ dst := some 46, op := Op.move (Operand.tmp 7), type := 28, pos := _, after := #[{ on := 8, ground := Ground.guard }], guard := some (8, false) } : Oper)) (v := ?_) rfl (by kernel_rfl) (by kernel_rfl) (by kernel_rfl) (fun _ _ _ h => h) (Or.inl ⟨by rfl, ?_⟩) (by assumption) ?_
        rotate_left
        · first | (intro W0 hSw; (try dsimp only at hSw); go_simp; done) | (intro W0 hSw; (try dsimp only at hSw); go_simp; with_reducible rfl) | (intro W0 hSw; (try dsimp only at hSw); rfl)
        (try simp only [Act.put]); (try simp only [List.setIfInBounds_toArray]); (try simp only [List.set_cons_succ]); (try simp only [List.set_cons_zero])
        refine wpAnyH_take (i := 10) (oi := ({ dst := some 47, op := Op.move (Operand.tmp 1), type := 23, pos := _, after := #[{ on := 8, ground := Ground.guard }], guard := some (8, false) } : Oper)) (v := ?_) rfl (by kernel_rfl) (by kernel_rfl) (by kernel_rfl) (fun _ _ _ h => h) (Or.inl ⟨by rfl, ?_⟩) (by assumption) ?_
        rotate_left
        · first | (intro W0 hSw; (try dsimp only at hSw); go_simp; done) | (intro W0 hSw; (try dsimp only at hSw); go_simp; with_reducible rfl) | (intro W0 hSw; (try dsimp only at hSw); rfl)
        (try simp only [Act.put]); (try simp only [List.setIfInBounds_toArray]); (try simp only [List.set_cons_succ]); (try simp only [List.set_cons_zero])
        refine wpAnyH_take (i := 11) (oi := ({ dst := some 48, op := Op.move (Operand.tmp 10), type := 3, pos := _, after := #[{ on := 8, ground := Ground.guard }], guard := some (8, false) } : Oper)) (v := ?_) rfl (by kernel_rfl) (by kernel_rfl) (by kernel_rfl) (fun _ _ _ h => h) (Or.inl ⟨by rfl, ?_⟩) (by assumption) ?_
        rotate_left
        · first | (intro W0 hSw; (try dsimp only at hSw); go_simp; done) | (intro W0 hSw; (try dsimp only at hSw); go_simp; with_reducible rfl) | (intro W0 hSw; (try dsimp only at hSw); rfl)
        (try simp only [Act.put]); (try simp only [List.setIfInBounds_toArray]); (try simp only [List.set_cons_succ]); (try simp only [List.set_cons_zero])
        refine wpAnyH_take (i := 12) (oi := ({ dst := some 49, op := Op.indexAddr 23 (Operand.tmp 47) (Operand.tmp 48), type := 0, pos := _, after := #[{ on := 10, ground := Ground.data }, { on := 11, ground := Ground.data }, { on := 8, ground := Ground.guard }], guard := some (8, false) } : Oper)) (v := ?_) rfl (by kernel_rfl) (by kernel_rfl) (by kernel_rfl) (fun _ _ _ h => h) (Or.inl ⟨by rfl, ?_⟩) (by assumption) ?_
        rotate_left
        · first | (intro W0 hSw; (try dsimp only at hSw); go_simp; done) | (intro W0 hSw; (try dsimp only at hSw); go_simp; with_reducible rfl) | (intro W0 hSw; (try dsimp only at hSw); rfl)
        (try simp only [Act.put]); (try simp only [List.setIfInBounds_toArray]); (try simp only [List.set_cons_succ]); (try simp only [List.set_cons_zero])
        refine wpAnyH_take (i := 13) (oi := ({ dst := some 50, op := Op.fieldAddr 36 (Operand.tmp 49) 1, type := 0, pos := _, after := #[{ on := 12, ground := Ground.data }, { on := 8, ground := Ground.guard }], guard := some (8, false) } : Oper)) (v := ?_) rfl (by kernel_rfl) (by kernel_rfl) (by kernel_rfl) (fun _ _ _ h => h) (Or.inl ⟨by rfl, ?_⟩) (by assumption) ?_
        rotate_left
        · first | (intro W0 hSw; (try dsimp only at hSw); go_simp; done) | (intro W0 hSw; (try dsimp only at hSw); go_simp; with_reducible rfl) | (intro W0 hSw; (try dsimp only at hSw); rfl)
        (try simp only [Act.put]); (try simp only [List.setIfInBounds_toArray]); (try simp only [List.set_cons_succ]); (try simp only [List.set_cons_zero])
        refine wpAnyH_take (i := 14) (oi := ({ dst := some 51, op := Op.load 3 (Operand.tmp 50), type := 3, pos := _, after := #[{ on := 13, ground := Ground.data }, { on := 8, ground := Ground.guard }], guard := some (8, false) } : Oper)) (v := ?_) rfl (by kernel_rfl) (by kernel_rfl) (by kernel_rfl) (fun _ _ _ h => h) (Or.inl ⟨by rfl, ?_⟩) (by assumption) ?_
        rotate_left
        · first | (intro W0 hSw; (try dsimp only at hSw); go_simp; done) | (intro W0 hSw; (try dsimp only at hSw); go_simp; with_reducible rfl) | (intro W0 hSw; (try dsimp only at hSw); rfl)
        (try simp only [Act.put]); (try simp only [List.setIfInBounds_toArray]); (try simp only [List.set_cons_succ]); (try simp only [List.set_cons_zero])
        refine wpAnyH_take (i := 16) (oi := ({ dst := some 53, op := Op.move (Operand.tmp 9), type := 32, pos := _, after := #[{ on := 8, ground := Ground.guard }], guard := some (8, false) } : Oper)) (v := ?_) rfl (by kernel_rfl) (by kernel_rfl) (by kernel_rfl) (fun _ _ _ h => h) (Or.inl ⟨by rfl, ?_⟩) (by assumption) ?_
        rotate_left
        · first | (intro W0 hSw; (try dsimp only at hSw); go_simp; done) | (intro W0 hSw; (try dsimp only at hSw); go_simp; with_reducible rfl) | (intro W0 hSw; (try dsimp only at hSw); rfl)
        (try simp only [Act.put]); (try simp only [List.setIfInBounds_toArray]); (try simp only [List.set_cons_succ]); (try simp only [List.set_cons_zero])
        refine wpAnyH_take (i := 17) (oi := ({ dst := some 54, op := Op.move (Operand.tmp 1), type := 23, pos := _, after := #[{ on := 8, ground := Ground.guard }], guard := some (8, false) } : Oper)) (v := ?_) rfl (by kernel_rfl) (by kernel_rfl) (by kernel_rfl) (fun _ _ _ h => h) (Or.inl ⟨by rfl, ?_⟩) (by assumption) ?_
        rotate_left
        · first | (intro W0 hSw; (try dsimp only at hSw); go_simp; done) | (intro W0 hSw; (try dsimp only at hSw); go_simp; with_reducible rfl) | (intro W0 hSw; (try dsimp only at hSw); rfl)
        (try simp only [Act.put]); (try simp only [List.setIfInBounds_toArray]); (try simp only [List.set_cons_succ]); (try simp only [List.set_cons_zero])
        refine wpAnyH_take (i := 18) (oi := ({ dst := some 55, op := Op.move (Operand.tmp 10), type := 3, pos := _, after := #[{ on := 8, ground := Ground.guard }], guard := some (8, false) } : Oper)) (v := ?_) rfl (by kernel_rfl) (by kernel_rfl) (by kernel_rfl) (fun _ _ _ h => h) (Or.inl ⟨by rfl, ?_⟩) (by assumption) ?_
        rotate_left
        · first | (intro W0 hSw; (try dsimp only at hSw); go_simp; done) | (intro W0 hSw; (try dsimp only at hSw); go_simp; with_reducible rfl) | (intro W0 hSw; (try dsimp only at hSw); rfl)
        (try simp only [Act.put]); (try simp only [List.setIfInBounds_toArray]); (try simp only [List.set_cons_succ]); (try simp only [List.set_cons_zero])
        refine wpAnyH_take (i := 19) (oi := ({ dst := some 56, op := Op.indexAddr 23 (Operand.tmp 54) (Operand.tmp 55), type := 0, pos := _, after := #[{ on := 17, ground := Ground.data }, { on := 18, ground := Ground.data }, { on := 8, ground := Ground.guard }], guard := some (8, false) } : Oper)) (v := ?_) rfl (by kernel_rfl) (by kernel_rfl) (by kernel_rfl) (fun _ _ _ h => h) (Or.inl ⟨by rfl, ?_⟩) (by assumption) ?_
        rotate_left
        · first | (intro W0 hSw; (try dsimp only at hSw); go_simp; done) | (intro W0 hSw; (try dsimp only at hSw); go_simp; with_reducible rfl) | (intro W0 hSw; (try dsimp only at hSw); rfl)
        (try simp only [Act.put]); (try simp only [List.setIfInBounds_toArray]); (try simp only [List.set_cons_succ]); (try simp only [List.set_cons_zero])
        refine wpAnyH_take (i := 20) (oi := ({ dst := some 57, op := Op.fieldAddr 36 (Operand.tmp 56) 1, type := 0, pos := _, after := #[{ on := 19, ground := Ground.data }, { on := 8, ground := Ground.guard }], guard := some (8, false) } : Oper)) (v := ?_) rfl (by kernel_rfl) (by kernel_rfl) (by kernel_rfl) (fun _ _ _ h => h) (Or.inl ⟨by rfl, ?_⟩) (by assumption) ?_
        rotate_left
        · first | (intro W0 hSw; (try dsimp only at hSw); go_simp; done) | (intro W0 hSw; (try dsimp only at hSw); go_simp; with_reducible rfl) | (intro W0 hSw; (try dsimp only at hSw); rfl)
        (try simp only [Act.put]); (try simp only [List.setIfInBounds_toArray]); (try simp only [List.set_cons_succ]); (try simp only [List.set_cons_zero])
        refine wpAnyH_take (i := 21) (oi := ({ dst := some 58, op := Op.load 3 (Operand.tmp 57), type := 3, pos := _, after := #[{ on := 20, ground := Ground.data }, { on := 8, ground := Ground.guard }], guard := some (8, false) } : Oper)) (v := ?_) rfl (by kernel_rfl) (by kernel_rfl) (by kernel_rfl) (fun _ _ _ h => h) (Or.inl ⟨by rfl, ?_⟩) (by assumption) ?_
        rotate_left
        · first | (intro W0 hSw; (try dsimp only at hSw); go_simp; done) | (intro W0 hSw; (try dsimp only at hSw); go_simp; with_reducible rfl) | (intro W0 hSw; (try dsimp only at hSw); rfl)
        (try simp only [Act.put]); (try simp only [List.setIfInBounds_toArray]); (try simp only [List.set_cons_succ]); (try simp only [List.set_cons_zero])
        refine wpAnyH_ready (rs := [15]) (by kernel_rfl) (by simp) ?_
        refine AllReadyH.cons (o := ({ dst := some 52, op := Op.call { callee := Callee.value (Operand.func 13), args := #[Operand.tmp 46, Operand.tmp 51], argTypes := #[28, 3] }, type := 3, pos := _, after := #[{ on := 9, ground := Ground.data }, { on := 14, ground := Ground.data }, { on := 8, ground := Ground.chain }, { on := 8, ground := Ground.guard }], guard := some (8, false) } : Oper)) rfl (fun K hK => ?_) AllReadyH.nil
        go_simp
        (go_at_call 13; refine (e4_find (L := L2) (by with_reducible (first | exact unhide HV2 | exact e4_more (unhide HV2) (Below.refl _ _).drew | exact e4_more (unhide HV2) (Below.refl _ _).drew.drew)) (unhide HG2) _).mono ?_; rintro e w3 ⟨rfl, he⟩; have HV3 := hide he; have hS3 := ((unhide HC) w3 (e4_bel he)).2.1; clear he)
        refine hK.out _ _ ?_ (fun hHeld => ?_)
        · exact hS3
        clear hK K
        (try simp only [Act.put]); (try simp only [List.setIfInBounds_toArray]); (try simp only [List.set_cons_succ]); (try simp only [List.set_cons_zero])
        refine wpAnyH_ready (rs := [22]) (by kernel_rfl) (by simp) ?_
        refine AllReadyH.cons (o := ({ dst := some 59, op := Op.call { callee := Callee.value (Operand.func 14), args := #[Operand.tmp 53, Operand.tmp 58], argTypes := #[32, 3] }, type := 3, pos := _, after := #[{ on := 16, ground := Ground.data }, { on := 21, ground := Ground.data }, { on := 15, ground := Ground.chain }, { on := 8, ground := Ground.guard }], guard := some (8, false) } : Oper)) rfl (fun K hK => ?_) AllReadyH.nil
        go_simp
        (go_at_call 14; refine (e4_rfind (L := L2) (by with_reducible (first | exact unhide HV3 | exact e4_more (unhide HV3) (Below.refl _ _).drew | exact e4_more (unhide HV3) (Below.refl _ _).drew.drew)) (unhide HG2) _).mono ?_; rintro e w4 ⟨rfl, he⟩; have HV4 := hide he; have hS4 := ((unhide HC) w4 (e4_bel he)).2.1; clear he)
        refine hK.out _ _ ?_ (fun hHeld => ?_)
        · exact hS4
        clear hK K
        (try simp only [Act.put]); (try simp only [List.setIfInBounds_toArray]); (try simp only [List.set_cons_succ]); (try simp only [List.set_cons_zero])
        refine wpAnyH_take (i := 23) (oi := ({ dst := some 60, op := Op.binOp BinOp.neq 3 (Operand.tmp 52) (Operand.tmp 59) 3, type := 4, pos := _, after := #[{ on := 15, ground := Ground.data }, { on := 22, ground := Ground.data }, { on := 8, ground := Ground.guard }], guard := some (8, false) } : Oper)) (v := ?_) rfl (by kernel_rfl) (by kernel_rfl) (by kernel_rfl) (fun _ _ _ h => h) (Or.inl ⟨by rfl, ?_⟩) (by assumption) ?_
        rotate_left
        · first | (intro W0 hSw; (try dsimp only at hSw); go_simp; done) | (intro W0 hSw; (try dsimp only at hSw); go_simp; with_reducible rfl) | (intro W0 hSw; (try dsimp only at hSw); rfl)
        (try simp only [Act.put]); (try simp only [List.setIfInBounds_toArray]); (try simp only [List.set_cons_succ]); (try simp only [List.set_cons_zero])
        refine wpAnyH_take (i := 24) (oi := ({ dst := some 61, op := Op.pick (Operand.tmp 45) (Operand.const (Value.bool true)) (Operand.tmp 60), type := 4, pos := _, after := #[{ on := 8, ground := Ground.data }, { on := 23, ground := Ground.data }], guard := none } : Oper)) (v := ?_) rfl (by kernel_rfl) (by kernel_rfl) (by kernel_rfl) (fun _ _ _ h => h) (Or.inl ⟨by rfl, ?_⟩) (by assumption) ?_
        rotate_left
        · first | (intro W0 hSw; (try dsimp only at hSw); go_simp; done) | (intro W0 hSw; (try dsimp only at hSw); go_simp; with_reducible rfl) | (intro W0 hSw; (try dsimp only at hSw); rfl)
        (try simp only [Act.put]); (try simp only [List.setIfInBounds_toArray]); (try simp only [List.set_cons_succ]); (try simp only [List.set_cons_zero])
        refine wpAnyH_take (i := 25) (oi := ({ dst := some 62, op := Op.move (Operand.tmp 61), type := 4, pos := _, after := #[{ on := 24, ground := Ground.data }, { on := 22, ground := Ground.chain }], guard := none } : Oper)) (v := ?_) rfl (by kernel_rfl) (by kernel_rfl) (by kernel_rfl) (fun _ _ _ h => h) (Or.inl ⟨by rfl, ?_⟩) (by assumption) ?_
        rotate_left
        · first | (intro W0 hSw; (try dsimp only at hSw); go_simp; done) | (intro W0 hSw; (try dsimp only at hSw); go_simp; with_reducible rfl) | (intro W0 hSw; (try dsimp only at hSw); rfl)
        (try simp only [Act.put]); (try simp only [List.setIfInBounds_toArray]); (try simp only [List.set_cons_succ]); (try simp only [List.set_cons_zero])
        refine wpAnyH_take (i := 26) (oi := ({ dst := some 63, op := Op.move (Operand.tmp 10), type := 3, pos := _, after := #[{ on := 25, ground := Ground.guard }], guard := some (25, false) } : Oper)) (v := ?_) rfl (by kernel_rfl) (by kernel_rfl) (by kernel_rfl) (fun _ _ _ h => h) (Or.inl ⟨by rfl, ?_⟩) (by assumption) ?_
        rotate_left
        · first | (intro W0 hSw; (try dsimp only at hSw); go_simp; done) | (intro W0 hSw; (try dsimp only at hSw); go_simp; with_reducible rfl) | (intro W0 hSw; (try dsimp only at hSw); rfl)
        (try simp only [Act.put]); (try simp only [List.setIfInBounds_toArray]); (try simp only [List.set_cons_succ]); (try simp only [List.set_cons_zero])
        refine wpAnyH_take (i := 27) (oi := ({ dst := some 64, op := Op.binOp BinOp.lss 3 (Operand.tmp 63) (Operand.const (Value.int IntKind.i64 300)) 3, type := 4, pos := _, after := #[{ on := 26, ground := Ground.data }, { on := 25, ground := Ground.guard }], guard := some (25, false) } : Oper)) (v := ?_) rfl (by kernel_rfl) (by kernel_rfl) (by kernel_rfl) (fun _ _ _ h => h) (Or.inl ⟨by rfl, ?_⟩) (by assumption) ?_
        rotate_left
        · first | (intro W0 hSw; (try dsimp only at hSw); go_simp; done) | (intro W0 hSw; (try dsimp only at hSw); go_simp; with_reducible rfl) | (intro W0 hSw; (try dsimp only at hSw); rfl)
        (try simp only [Act.put]); (try simp only [List.setIfInBounds_toArray]); (try simp only [List.set_cons_succ]); (try simp only [List.set_cons_zero])
        refine wpAnyH_take (i := 28) (oi := ({ dst := some 65, op := Op.move (Operand.tmp 64), type := 4, pos := _, after := #[{ on := 27, ground := Ground.data }, { on := 25, ground := Ground.chain }, { on := 25, ground := Ground.guard }], guard := some (25, false) } : Oper)) (v := ?_) rfl (by kernel_rfl) (by kernel_rfl) (by kernel_rfl) (fun _ _ _ h => h) (Or.inl ⟨by rfl, ?_⟩) (by assumption) ?_
        rotate_left
        · first | (intro W0 hSw; (try dsimp only at hSw); go_simp; done) | (intro W0 hSw; (try dsimp only at hSw); go_simp; with_reducible rfl) | (intro W0 hSw; (try dsimp only at hSw); rfl)
        (try simp only [Act.put]); (try simp only [List.setIfInBounds_toArray]); (try simp only [List.set_cons_succ]); (try simp only [List.set_cons_zero])
        refine wpAnyH_take (i := 29) (oi := ({ dst := some 66, op := Op.move (Operand.tmp 7), type := 28, pos := _, after := #[{ on := 28, ground := Ground.guard }], guard := some (28, true) } : Oper)) (v := undef) rfl (by kernel_rfl) (by kernel_rfl) (by kernel_rfl) (fun _ _ _ h => h) (Or.inr ⟨by rfl, rfl⟩) (by assumption) ?_
        (try simp only [Act.put]); (try simp only [List.setIfInBounds_toArray]); (try simp only [List.set_cons_succ]); (try simp only [List.set_cons_zero])
        refine wpAnyH_take (i := 30) (oi := ({ dst := some 67, op := Op.move (Operand.tmp 9), type := 32, pos := _, after := #[{ on := 28, ground := Ground.guard }], guard := some (28, true) } : Oper)) (v := undef) rfl (by kernel_rfl) (by kernel_rfl) (by kernel_rfl) (fun _ _ _ h => h) (Or.inr ⟨by rfl, rfl⟩) (by assumption) ?_
        (try simp only [Act.put]); (try simp only [List.setIfInBounds_toArray]); (try simp only [List.set_cons_succ]); (try simp only [List.set_cons_zero])
        refine wpAnyH_take (i := 31) (oi := ({ dst := some 68, op := Op.call { callee := Callee.value (Operand.func 15), args := #[Operand.tmp 66, Operand.tmp 67], argTypes := #[28, 32] }, type := 4, pos := _, after := #[{ on := 29, ground := Ground.data }, { on := 30, ground := Ground.data }, { on := 28, ground := Ground.chain }, { on := 28, ground := Ground.guard }], guard := some (28, true) } : Oper)) (v := undef) rfl (by kernel_rfl) (by kernel_rfl) (by kernel_rfl) (fun _ _ _ h => h) (Or.inr ⟨by rfl, rfl⟩) (by assumption) ?_
        (try simp only [Act.put]); (try simp only [List.setIfInBounds_toArray]); (try simp only [List.set_cons_succ]); (try simp only [List.set_cons_zero])
        refine wpAnyH_take (i := 32) (oi := ({ dst := some 69, op := Op.unOp UnOp.not 4 (Operand.tmp 68), type := 4, pos := _, after := #[{ on := 31, ground := Ground.data }, { on := 28, ground := Ground.guard }], guard := some (28, true) } : Oper)) (v := undef) rfl (by kernel_rfl) (by kernel_rfl) (by kernel_rfl) (fun _ _ _ h => h) (Or.inr ⟨by rfl, rfl⟩) (by assumption) ?_
        (try simp only [Act.put]); (try simp only [List.setIfInBounds_toArray]); (try simp only [List.set_cons_succ]); (try simp only [List.set_cons_zero])
        refine wpAnyH_take (i := 33) (oi := ({ dst := some 70, op := Op.pick (Operand.tmp 65) (Operand.tmp 69) (Operand.const (Value.bool false)), type := 4, pos := _, after := #[{ on := 28, ground := Ground.data }, { on := 32, ground := Ground.data }, { on := 25, ground := Ground.guard }], guard := some (25, false) } : Oper)) (v := .bool false) rfl (by kernel_rfl) (by kernel_rfl) (by kernel_rfl) (fun _ _ _ h => h) (Or.inl ⟨by rfl, ?_⟩) (by assumption) ?_
        · first | (intro W0 hSw; (try dsimp only at hSw); go_simp; done) | (intro W0 hSw; (try dsimp only at hSw); go_simp; with_reducible rfl) | (intro W0 hSw; (try dsimp only at hSw); rfl)
        (try simp only [Act.put]); (try simp only [List.setIfInBounds_toArray]); (try simp only [List.set_cons_succ]); (try simp only [List.set_cons_zero])
        refine wpAnyH_take (i := 34) (oi := ({ dst := some 71, op := Op.pick (Operand.tmp 62) (Operand.const (Value.bool true)) (Operand.tmp 70), type := 4, pos := _, after := #[{ on := 25, ground := Ground.data }, { on := 33, ground := Ground.data }], guard := none } : Oper)) (v := .bool false) rfl (by kernel_rfl) (by kernel_rfl) (by kernel_rfl) (fun _ _ _ h => h) (Or.inl ⟨by rfl, ?_⟩) (by assumption) ?_
        · first | (intro W0 hSw; (try dsimp only at hSw); go_simp; done) | (intro W0 hSw; (try dsimp only at hSw); go_simp; with_reducible rfl) | (intro W0 hSw; (try dsimp only at hSw); rfl)
        (try simp only [Act.put]); (try simp only [List.setIfInBounds_toArray]); (try simp only [List.set_cons_succ]); (try simp only [List.set_cons_zero])
        refine wpAnyH_done (by kernel_rfl) ?_ _
        go_wp2
        go_roundg (gk - 1)
        all_goals first
          | exact ⟨i + 1, by go_num, by have := unhide HIG; have := unhide HI; omega, L2, unhide HG2, (by first | exact unhide HV4 | exact e4_more (unhide HV4) (Below.refl _ _).drew)⟩
          | (have := unhide HIG; have := unhide HI; omega)
    · have hiz : ¬ (i : Int) < (ops.length : Int) := by omega
      generalize ops.length = no at *
      clear he hg hig hi
      go_wp2_with (first | (go_at_call 15; refine (e4_same (L := L) (by first | exact unhide HV | exact e4_more (unhide HV) (Below.refl _ _).drew | exact e4_more (unhide HV) (below_dn (Below.refl _ _) _) | exact e4_more (unhide HV) (Below.refl _ _).drew.drew) (unhide HG)).mono ?_; rintro e w5 ⟨rfl, he⟩; have HV := hide he; clear he) | (go_at_call 16; refine (e4_awake (L := L) (by first | exact unhide HV | exact e4_more (unhide HV) (Below.refl _ _).drew | exact e4_more (unhide HV) (below_dn (Below.refl _ _) _) | exact e4_more (unhide HV) (Below.refl _ _).drew.drew)).mono ?_; rintro e w6 ⟨rfl, he⟩; have HV := hide he; clear he))
      all_goals try (first | go_region_with (first | (go_at_call 15; refine (e4_same (L := L) (by first | exact unhide HV | exact e4_more (unhide HV) (Below.refl _ _).drew | exact e4_more (unhide HV) (below_dn (Below.refl _ _) _) | exact e4_more (unhide HV) (Below.refl _ _).drew.drew) (unhide HG)).mono ?_; rintro e w5 ⟨rfl, he⟩; have HV := hide he; clear he) | (go_at_call 16; refine (e4_awake (L := L) (by first | exact unhide HV | exact e4_more (unhide HV) (Below.refl _ _).drew | exact e4_more (unhide HV) (below_dn (Below.refl _ _) _) | exact e4_more (unhide HV) (Below.refl _ _).drew.drew)).mono ?_; rintro e w6 ⟨rfl, he⟩; have HV := hide he; clear he)) | fail)
      all_goals go_wp2
      all_goals go_ret
      all_goals exact ⟨by first | rfl | simp, e4_bel (unhide HV)⟩
end Go.Proofs.Ytmllhebmaldgfaa

namespace Go.Proofs.Ytmllhebmaldgfaa
open Go.RowKit

theorem play_any {w : World} {bA bR bK bW : Nat} {ks : List Key} (hsp : SpK ks) : PlayIs w bA bR bK bW ks := by
  intro wx L o hg h
  by_cases q0 : o.what = 0
  · exact (play_0 h hg o q0).mono fun _ _ ⟨a, b⟩ => ⟨a, _, hg.push _, b⟩
  by_cases q1 : o.what = 1
  · exact (play_1 h hg o q1).mono fun _ _ ⟨a, b⟩ => ⟨a, _, hg.pop, b⟩
  by_cases q2 : o.what = 2
  · exact (play_2 h hg o q2).mono fun _ _ ⟨a, b⟩ => ⟨a, _, hg.remove _, b⟩
  by_cases q3 : o.what = 3
  · exact (play_3 h hg o q3).mono fun _ _ ⟨a, b⟩ => ⟨a, _, hg.put _ _, b⟩
  by_cases q4 : o.what = 4
  · exact (play_4 h hg o q4).mono fun _ _ ⟨a, b⟩ => ⟨a, _, hg.swap _ _, b⟩
  by_cases q5 : o.what = 5
  · exact (play_5 h hg o q5).mono fun _ _ ⟨a, b⟩ => ⟨a, _, hg, b⟩
  by_cases q6 : o.what = 6
  · exact (play_6 h hg o q6).mono fun _ _ ⟨a, b⟩ => ⟨a, _, hg, b⟩
  by_cases q7 : o.what = 7
  · exact (play_7 h hg o q7).mono fun _ _ ⟨a, b⟩ => ⟨a, _, hg.popTo _, b⟩
  by_cases q8 : o.what = 8
  · exact (play_8 h hg o q8).mono fun _ _ ⟨a, b⟩ => ⟨a, _, hg.cut _, b⟩
  by_cases q9 : o.what = 9
  · exact (play_9 h hg o q9).mono fun _ _ ⟨a, b⟩ => ⟨a, _, hg.cut _, b⟩
  exact (play_10 h o q0 q1 q2 q3 q4 q5 q6 q7 q8 q9 hsp.el).mono fun _ _ ⟨a, b⟩ => ⟨a, _, hg, b⟩

theorem plays_walk (l : List Cal) (a0 : Option Addr) (cap0 : Nat) (ops : List OpM) (a1 : Option Addr) (cap1 : Nat) (w : World) (hin : ElsIn w a0 l) (hl : l.length ≤ 140737488351232) (hop : OpsIn w a1 ops) (hol : ops.length ≤ 140737488351232) :
    Calls Try.prog 3 #[.slice a0 l.length cap0, .slice a1 ops.length cap1] w fun e w' => e = .returned (.bool true) ∧ Below w.heap.size w w' :=
  plays_of l a0 cap0 ops a1 cap1 w hin hl hop hol (fun _ _ _ _ => play_any (SpK.ksL l))
end Go.Proofs.Ytmllhebmaldgfaa
